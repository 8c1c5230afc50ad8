/-
  A byte looked for by the specification; each theorem names its conditions.
  A text copied, by the program; each theorem names its conditions.
  The statement of partOf that appends a class; each theorem names its conditions.
  A part read from a word by the program; each theorem names its conditions.
-/
import Derived.Test.YtnkmdmmlpidcmaaGreatDoorJAM
import Derived.Test.YtnkmdmmlpidcmaaGreatDoorJAI
import Derived.Test.YtnkmdmmlpidcmaaGreatDoorJAA
import Derived.Test.YtnkmdmmlpidcmaaGreatDoorJAK
import Derived.Test.YtnkmdmmlpidcmaaGreatDoorJAG
import Derived.Test.YtnkmdmmlpidcmaaGreatDoorJAH
import Derived.Test.YtnkmdmmlpidcmaaGreatDoorJAF
namespace Go.Proofs.YtnkmdmmlpidcmaaGreatDoor
open Go.ChangeShapes Go.WideShapes Go.ChangeAt Go.RowKit
set_option linter.unusedVariables false

/-- Where a byte stands from a place on. -/
def fndB (c : UInt8) (s : ByteArray) (k : Nat) : Nat := k + brk c (s.data.toList.drop k)
theorem fndB_hit {c : UInt8} {s : ByteArray} {k : Nat} (h : k < s.size) (hc : s[k] = c) : fndB c s k = k := by
  unfold fndB
  rw [hd_byte s k h, brk_cons, if_pos hc]; rfl
theorem fndB_miss {c : UInt8} {s : ByteArray} {k : Nat} (h : k < s.size) (hc : s[k] ≠ c) : fndB c s k = fndB c s (k + 1) := by
  unfold fndB
  rw [hd_byte s k h, brk_cons, if_neg hc]; omega
theorem fndB_end {c : UInt8} {s : ByteArray} {k : Nat} (h : ¬ k < s.size) : fndB c s k = k := by
  unfold fndB
  rw [hd_none s k h]; rfl
theorem fndB_le {c : UInt8} {s : ByteArray} {k : Nat} (h : k ≤ s.size) : fndB c s k ≤ s.size := by
  have := brk_le c (s.data.toList.drop k)
  rw [List.length_drop, data_len] at this
  unfold fndB; omega
theorem byte_nne {b c : UInt8} (h : b ≠ c) : ((b.toNat : Int) != (c.toNat : Int)) = true := by
  rw [bne_iff_ne]
  intro e
  exact h (UInt8.toNat_inj.1 (by omega))
theorem byte_nee {b c : UInt8} (h : b = c) : ((b.toNat : Int) != (c.toNat : Int)) = false := by rw [h]; simp
set_option maxHeartbeats 4000000 in
theorem sfind (s : ByteArray) (c : UInt8) (n : Nat) (w : World) (hn : n ≤ s.size) (hs : s.size ≤ 1048576) :
    Calls Tryz.prog 79 #[.string s, .int .i64 (n : Int), .int .u8 (c.toNat : Int)] w fun e w' => e = .returned (.int .i64 (fndB c s n : Nat)) ∧ w' = w := by
  go_enter Tryz.func79, Tryz.ntmps79
  go_wp2
  go_loop [1] (fun v => ∃ k : Nat, v = .int .i64 (k : Int) ∧ k ≤ s.size ∧ fndB c s n = fndB c s k) (fun v => s.size - (intOf v).toNat)
  case atStart => exact ⟨n, rfl, hn, rfl⟩
  case round =>
    obtain ⟨k, rfl, hk, hf⟩ := hrel
    by_cases hlt : k < s.size
    · have hltI : (k : Int) < (s.size : Int) := by omega
      by_cases hc : s[k] = c
      · have g1 := byte_nee hc
        have HE : Hid (fndB c s n = k) := by show _ = _; rw [hf, fndB_hit hlt hc]
        clear hf hc
        go_wp2
        go_ret
        exact ⟨by rw [HE.out]; rfl, rfl⟩
      · have g1 := byte_nne hc
        have HE : Hid (fndB c s n = fndB c s (k + 1)) := by show _ = _; rw [hf, fndB_miss hlt hc]
        clear hf hc
        go_wp2
        go_round
        case rel => exact ⟨k + 1, by go_num, by omega, HE.out⟩
        case measure => simp [intOf]; omega
    · have hltI : ¬ ((k : Int) < (s.size : Int)) := by omega
      have HE : Hid (fndB c s n = k) := by show _ = _; rw [hf, fndB_end hlt]
      clear hf
      go_wp2
      go_ret
      exact ⟨by rw [HE.out]; rfl, rfl⟩
/-- Where a rule begins, opens and ends, by places and by lists. -/
theorem sh_cut {b : ByteArray} {at0 : Nat} (h : at0 ≤ b.size) (hm : fndB 123 b at0 < b.size) :
    b.extract at0 (fndB 123 b at0) = bA (aheadL (b.data.toList.drop at0)) ∧ b.extract (fndB 123 b at0 + 1) (fndB 125 b (fndB 123 b at0)) = bA (insideL (b.data.toList.drop at0)) ∧ b.data.toList.drop (fndB 125 b (fndB 123 b at0) + 1) = restL (b.data.toList.drop at0) ∧ fndB 123 b at0 + 1 ≤ fndB 125 b (fndB 123 b at0) ∧ at0 ≤ fndB 123 b at0 ∧ brk 123 (b.data.toList.drop at0) < (b.data.toList.drop at0).length := by
  have hl : brk 123 (b.data.toList.drop at0) < (b.data.toList.drop at0).length := by
    rw [List.length_drop, data_len]
    unfold fndB at hm; omega
  have hq : b[fndB 123 b at0]'hm = 123 := by
    have h1 := brk_at 123 _ hl
    rw [List.getElem_drop] at h1
    exact h1
  have he : fndB 125 b (fndB 123 b at0) = fndB 123 b at0 + 1 + brk 125 (b.data.toList.drop (fndB 123 b at0 + 1)) := by
    rw [fndB_miss hm (by rw [hq]; decide)]; rfl
  have hb : behindL (b.data.toList.drop at0) = b.data.toList.drop (fndB 123 b at0 + 1) := by
    unfold behindL fndB
    rw [List.drop_drop]
    congr 1
  refine ⟨?_, ?_, ?_, by omega, by unfold fndB; omega, hl⟩
  · rw [ext_bA]
    unfold aheadL fndB
    rw [List.drop_take]
    congr 2; omega
  · rw [ext_bA, he]
    unfold insideL
    rw [hb, List.drop_take]
    congr 2; omega
  · rw [he]
    unfold restL
    rw [hb, List.drop_drop]
    congr 1
theorem sh_none {b : ByteArray} {at0 : Nat} (h : at0 ≤ b.size) (hm : ¬ fndB 123 b at0 < b.size) : ¬ brk 123 (b.data.toList.drop at0) < (b.data.toList.drop at0).length := by
  rw [List.length_drop, data_len]
  unfold fndB at hm; omega
end Go.Proofs.YtnkmdmmlpidcmaaGreatDoor
namespace Go.Proofs.YtnkmdmmlpidcmaaGreatDoor
open Go.ChangeShapes Go.WideShapes Go.ChangeAt Go.RowKit
set_option linter.unusedVariables false

theorem clone_any (w : World) (s : ByteArray) (hs : s.size ≤ 1048576) : Calls Tryz.prog 77 #[.string s] w fun e w' => e = .returned (.string s) ∧ Nw w w' := by
  go_enter Tryz.func77, Tryz.ntmps77
  go_wp2_with (go_at_call 112; refine (Tryz.stringslite_Clone _ _ (by omega)).mono ?_; rintro e w' ⟨rfl, k1⟩)
  go_ret
  exact ⟨rfl, k1⟩
end Go.Proofs.YtnkmdmmlpidcmaaGreatDoor
namespace Go.Proofs.YtnkmdmmlpidcmaaGreatDoor
open Go.ChangeShapes Go.WideShapes Go.ChangeAt Go.RowKit
set_option linter.unusedVariables false

structure IP7 where
 bx : Nat
 p : ByteArray
 q : ByteArray
 va : Option Addr
 vc : Nat
 l : List ByteArray
 x : ByteArray
 W : World
 a0 : Act
structure IP7Ok (X : IP7) : Prop where
 cb : CvP X.bx X.W X.p X.q (.slice X.va X.l.length X.vc) X.l
 len : X.l.length ≤ 2000000
 hx : X.x.size ≤ 1048576
 e8 : X.a0.eval (.tmp 8) = .pointer (some ⟨X.bx, 0, none⟩)
 e10 : X.a0.eval (.tmp 10) = .string X.x
 sz : X.a0.tmps.size = 53
def IP7.val0 (X : IP7) : Nat → Value
 | 8 => .pointer (some ⟨X.bx, 0, none⟩)
 | 10 => .string X.x
 | 33 => .pointer (some ⟨X.bx, 2, none⟩)
 | 34 => .slice X.va X.l.length X.vc
 | 35 => .string X.x
 | 39 => .pointer (some ⟨X.bx, 2, none⟩)
 | _ => undef
def IP7.av : Nat → Option Nat
 | 36 => some 0
 | 37 => some 1
 | 38 => some 2
 | _ => none
def IP7.acts : List Nat := [3, 4, 5, 7]
/-- The world, by how many of the acting ones have come up. -/
def IP7.Wd (X : IP7) : Nat → (Nat → Value) → World → Prop
  | 0, _, w => Nw X.W w
  | 1, γ, w => γ 0 = .string X.x ∧ Nw X.W w
  | 2, γ, w => ∃ w1, Nw X.W w1 ∧ γ 1 = .slice (some ⟨w1.heap.size, 0, none⟩) 1 1 ∧ w = w1.alloc (.cells #[.string (X.x)] 9)
  | 3, γ, w => ∃ w1, Nw X.W w1 ∧ Txs w (X.bx + 1) (γ 2) (X.l ++ [X.x]) ∧ Ext (.slice X.va X.l.length X.vc) (γ 2) w1 w
  | _, γ, w => ∃ w1 w2, Nw X.W w1 ∧ Txs w2 (X.bx + 1) (γ 2) (X.l ++ [X.x]) ∧ Ext (.slice X.va X.l.length X.vc) (γ 2) w1 w2 ∧ w = w2.setCell ⟨X.bx, 2, none⟩ (γ 2)
theorem IP7.chain : chainG (opsOf 7 Tryz.f41) IP7.acts = true := by kernel_rfl
theorem IP7.nodup : IP7.acts.Nodup := by decide
def IP7.L : List (Option Nat × Op × Option (Nat × Bool)) := [
 (some 33, .fieldAddr 67 (.tmp 8) 2, none),
 (some 34, .load 65 (.tmp 33), none),
 (some 35, .move (.tmp 10), none),
 (some 36, .call { callee := .value (.func 77), args := #[(.tmp 35)], argTypes := #[9] }, none),
 (some 37, .buildSlice 65 1 #[(0, (.tmp 36))], none),
 (some 38, .call { callee := .builtin .append, args := #[(.tmp 34), (.tmp 37)], argTypes := #[65, 65] }, none),
 (some 39, .fieldAddr 67 (.tmp 8) 2, none),
 (none, .store 65 (.tmp 39) (.tmp 38), none)]
theorem IP7.isL : (opsOf 7 Tryz.f41).toList.map tri = IP7.L := by kernel_rfl
theorem IP7.ini {X : IP7} (ok : IP7Ok X) : ∀ n ∈ [8, 10], X.a0.eval (.tmp n) = X.val0 n := by
 simp only [List.forall_mem_cons]
 exact ⟨ok.e8, ok.e10, List.forall_mem_nil _⟩
abbrev IP7.St (X : IP7) (Q : Exit → Act → World → Prop) (i : Nat) : Prop := StepG (opsOf 7 Tryz.f41) IP7.acts IP7.av X.val0 X.Wd X.a0 Q i
theorem IP7.plain (X : IP7) (ok : IP7Ok X) {Q : Exit → Act → World → Prop} : ∀ i ∈ [0, 2, 6], IP7.St X Q i := by
 simp only [List.forall_mem_cons]
 refine ⟨?_, ?_, ?_, List.forall_mem_nil _⟩
 all_goals
  refine st_plain IP7.isL (IP7.ini ok) ok.sz rfl (by kernel_rfl) ?_
  intro γ w n o hW hop
  unfold execOp
  rw [hop]
  simp [envR, valG, IP7.av, IP7.val0, go_sem]
theorem IP7.s1 (X : IP7) (ok : IP7Ok X) {Q : Exit → Act → World → Prop} : IP7.St X Q 1 := by
 intro γ listed a w o hF hC hW h1 ho h2
 obtain ⟨hd, hop, hg⟩ := fieldsL IP7.isL (i := 1) rfl ho
 have e33 : a.eval (.tmp 33) = .pointer (some ⟨X.bx, 2, none⟩) := known hF ho h2 (IP7.ini ok) ok.sz (by kernel_rfl)
 have hph := phase_leG (acts := IP7.acts) (m := 2) (x := 5) hC (unl (hF.lt ho) h1) rfl [1] (by kernel_rfl) (by decide)
 have hWW := hW
 generalize phase listed IP7.acts = n at hph hWW
 have hk : Nw X.W w := by
  rcases (show n = 0 ∨ n = 1 ∨ n = 2 by omega) with rfl | rfl | rfl
  ·exact hWW
  ·exact hWW.2
  ·obtain ⟨w1, k1, _, rfl⟩ := hWW
   exact Nw.trans k1 ((Below.refl _ _).alloc (Nat.le_refl _) _)
 have hc := (ok.cb.nw hk).c2
 refine st_pureG hF hC hW ho h2 (by decide) hd hg rfl ?_
 show _ = Result.ok (Next.value (.slice X.va X.l.length X.vc)) w
 generalize a.eval = ρ at e33 ⊢
 unfold execOp
 rw [hop]
 simp [e33, hc, go_sem]
theorem IP7.s3 (X : IP7) (ok : IP7Ok X) {Q : Exit → Act → World → Prop} : IP7.St X Q 3 := by
 intro γ listed a w o hF hC hW h1 ho h2
 obtain ⟨hd, hop, hg⟩ := fieldsL IP7.isL (i := 3) rfl ho
 have e35 : a.eval (.tmp 35) = .string X.x := known hF ho h2 (IP7.ini ok) ok.sz (by kernel_rfl)
 have ef : a.eval (.func 77) = .func (.func 77) #[] #[] := rfl
 have hu := unl (hF.lt ho) h1
 refine st_actG (k := 0) IP7.chain IP7.nodup rfl hF hC hW h1 ho h2 (Or.inr ⟨36, hd, rfl⟩) (injG (by kernel_rfl) hu) hg ?_
 intro hW0 K hK
 have k0 : Nw X.W w := hW0
 have hr : (execOp a.eval o).run Tryz.prog w = .ok (.enter 77 #[.string X.x]) w := by
  generalize a.eval = ρ at e35 ef ⊢
  unfold execOp
  rw [hop]
  simp [e35, ef, go_sem]
 unfold Oper.wp
 rw [hr]
 refine Calls.mono (clone_any w X.x ok.hx) ?_
 rintro e w' ⟨rfl, n1⟩
 exact hK _ _ ⟨rfl, Nw.trans k0 n1⟩
theorem IP7.s4 (X : IP7) (ok : IP7Ok X) {Q : Exit → Act → World → Prop} : IP7.St X Q 4 := by
 intro γ listed a w o hF hC hW h1 ho h2
 obtain ⟨hd, hop, hg⟩ := fieldsL IP7.isL (i := 4) rfl ho
 have e36 : a.eval (.tmp 36) = γ 0 := known hF ho h2 (IP7.ini ok) ok.sz (by kernel_rfl)
 have hu := unl (hF.lt ho) h1
 refine st_actG (k := 1) IP7.chain IP7.nodup rfl hF hC hW h1 ho h2 (Or.inr ⟨37, hd, rfl⟩) (injG (by kernel_rfl) hu) hg ?_
 intro hW0 K hK
 obtain ⟨g0, k0⟩ := hW0
 rw [g0] at e36
 have hr : (execOp a.eval o).run Tryz.prog w = .ok (.value (.slice (some ⟨w.heap.size, 0, none⟩) 1 1)) (w.alloc (.cells #[.string (X.x)] 9)) := by
  generalize a.eval = ρ at e36 ⊢
  unfold execOp
  rw [hop]
  simp [e36, go_sem]
 unfold Oper.wp
 rw [hr]
 exact hK _ _ ⟨w, k0, rfl, rfl⟩
theorem IP7.s5 (X : IP7) (ok : IP7Ok X) {Q : Exit → Act → World → Prop} : IP7.St X Q 5 := by
 intro γ listed a w o hF hC hW h1 ho h2
 obtain ⟨hd, hop, hg⟩ := fieldsL IP7.isL (i := 5) rfl ho
 have e34 : a.eval (.tmp 34) = .slice X.va X.l.length X.vc := known hF ho h2 (IP7.ini ok) ok.sz (by kernel_rfl)
 have e37 : a.eval (.tmp 37) = γ 1 := known hF ho h2 (IP7.ini ok) ok.sz (by kernel_rfl)
 have hu := unl (hF.lt ho) h1
 refine st_actG (k := 2) IP7.chain IP7.nodup rfl hF hC hW h1 ho h2 (Or.inr ⟨38, hd, rfl⟩) (injG (by kernel_rfl) hu) hg ?_
 intro hW0 K hK
 obtain ⟨w1, k1, g0, rfl⟩ := hW0
 rw [g0] at e37
 have lb := ok.cb.nw k1
 have n1 : Nw w1 (w1.alloc (.cells #[.string (X.x)] 9)) := (Below.refl _ _).alloc (Nat.le_refl _) _
 refine wpk_tx _ (.tmp 34) (.tmp 37) hop (X.bx + 1) (.slice X.va X.l.length X.vc) X.l (X.x) e34 (lb.own.nw n1) w1.heap.size e37 (by simp) (by have := ok.len; omega) (by have := lb.lt; simp; omega) ?_
 intro v' w' h3 h4
 exact hK _ _ ⟨w1, k1, h3, n1.ext h4⟩
theorem IP7.s7 (X : IP7) (ok : IP7Ok X) {Q : Exit → Act → World → Prop} : IP7.St X Q 7 := by
 intro γ listed a w o hF hC hW h1 ho h2
 obtain ⟨hd, hop, hg⟩ := fieldsL IP7.isL (i := 7) rfl ho
 have e39 : a.eval (.tmp 39) = .pointer (some ⟨X.bx, 2, none⟩) := known hF ho h2 (IP7.ini ok) ok.sz (by kernel_rfl)
 have e38 : a.eval (.tmp 38) = γ 2 := known hF ho h2 (IP7.ini ok) ok.sz (by kernel_rfl)
 have hu := unl (hF.lt ho) h1
 refine st_actG (k := 3) IP7.chain IP7.nodup rfl hF hC hW h1 ho h2 (Or.inl hd) (injG (by kernel_rfl) hu) hg ?_
 intro hW0 K hK
 obtain ⟨w1, k1, o1, x1⟩ := hW0
 obtain ⟨t0, tf⟩ := (ok.cb.nw k1).there x1
 obtain ⟨sa, sc, g1⟩ := o1.slice
 have hr : (execOp a.eval o).run Tryz.prog w = .ok .skip (w.setCell ⟨X.bx, 2, none⟩ (γ 2)) := by
  rw [g1] at e38 ⊢
  generalize a.eval = ρ at e38 e39 ⊢
  unfold execOp
  rw [hop]
  simp [e38, e39, t0, tf, go_sem]
 unfold Oper.wp
 rw [hr]
 exact hK _ _ ⟨w1, w, k1, o1, x1, rfl⟩
theorem IP7.size : (opsOf 7 Tryz.f41).size = 8 := by kernel_rfl
theorem IP7.rest (X : IP7) (ok : IP7Ok X) {Q : Exit → Act → World → Prop} : ∀ i ∈ [1, 3, 4, 5, 7], IP7.St X Q i := by
 simp only [List.forall_mem_cons]
 exact ⟨IP7.s1 X ok,
  IP7.s3 X ok,
  IP7.s4 X ok,
  IP7.s5 X ok,
  IP7.s7 X ok, List.forall_mem_nil _⟩
theorem IP7.steps (X : IP7) (ok : IP7Ok X) {Q : Exit → Act → World → Prop} (i : Nat) (hi : i < (opsOf 7 Tryz.f41).size) : IP7.St X Q i := by
 rw [IP7.size] at hi
 rcases (by decide : ∀ i, i < 8 → i ∈ [0, 2, 6] ∨ i ∈ [1, 3, 4, 5, 7]) i hi with h | h
 · exact IP7.plain X ok i h
 · exact IP7.rest X ok i h
/-- The region, whatever order comes up. -/
theorem IP7.run (X : IP7) (ok : IP7Ok X) {Q : Exit → Act → World → Prop} (w : World) (h0 : X.Wd 0 (fun _ => undef) w.drew) (hend : ∀ (γ : Nat → Value) w', X.Wd 4 γ w' → Q .normal (((((((X.a0.put (some 33) (.pointer (some ⟨X.bx, 2, none⟩))).put (some 34) (.slice X.va X.l.length X.vc)).put (some 35) (.string X.x)).put (some 36) (γ 0)).put (some 37) (γ 1)).put (some 38) (γ 2)).put (some 39) (.pointer (some ⟨X.bx, 2, none⟩))) w') : (Code.region 7 (opsOf 7 Tryz.f41) true).wp Tryz.prog Q X.a0 w := by
 refine reg_act (acts := IP7.acts) (av := IP7.av) (val0 := X.val0) (Wd := X.Wd) (by kernel_rfl) (by kernel_rfl) (by rw [IP7.size]; decide) (fun i hi => IP7.steps X ok i hi) _ h0 ?_
 intro γ w' h
 exact end_at (hend γ w' h) (by kernel_rfl)
end Go.Proofs.YtnkmdmmlpidcmaaGreatDoor
namespace Go.Proofs.YtnkmdmmlpidcmaaGreatDoor
open Go.ChangeShapes Go.WideShapes Go.ChangeAt Go.RowKit
set_option linter.unusedVariables false

theorem split1 (s : ByteArray) (c : UInt8) (w : World) (hs : s.size ≤ 1048576) :
    Calls Tryz.prog 76 #[.string s, .string ⟨#[c]⟩] w fun e w' => e = .returned (.slice (some ⟨w.heap.size, 0, none⟩) (pcB c s).length (pcB c s).length) ∧ Nw w w' ∧ LayS w' w.heap.size (pcB c s) (pcB c s).length := by
  go_enter Tryz.func76, Tryz.ntmps76
  go_wp2_with (go_at_call 111; refine (gsplit1 s c _ hs).mono ?_; rintro e w' ⟨rfl, k1, k2⟩)
  go_ret
  exact ⟨rfl, k1, k2⟩
theorem done_cls {w w9 : World} {g vc : Nat} {va : Option Addr} {D : List ByteArray} {u0 u1 u2 : Value} (h : Txs w9 (g + 1) (.slice va D.length vc) D) (hn : Nw w w9) (hg : w.heap.size < g) :
    RowM 1 EStr (((w9.setCell ⟨w.heap.size, 0, none⟩ u0).setCell ⟨w.heap.size, 1, none⟩ u1).setCell ⟨w.heap.size, 2, none⟩ u2) (.slice va D.length vc) D (iv w (((w9.setCell ⟨w.heap.size, 0, none⟩ u0).setCell ⟨w.heap.size, 1, none⟩ u1).setCell ⟨w.heap.size, 2, none⟩ u2)) := by
  have hne : (Value.slice va D.length vc).ownBlock ≠ some w.heap.size := fun e => by have := (World.ownsRow.lt h _ e).1; omega
  exact RowM.ofTxs (((h.far _ _ _ hne).far _ _ _ hne).far _ _ _ hne) (fun b h1 h2 => ⟨by omega, h2⟩)
set_option maxHeartbeats 8000000 in
theorem ipartOf (w : World) (s : ByteArray) (hs : s.size ≤ 1048576) :
    Calls Tryz.prog 41 #[.string s] w fun e w' => PartSays s w w' e ∧ Nw w w' := by
  obtain ⟨d1, nm, id, b, D, hf⟩ := part_facts s hs
  have HF : Hid (PartF s d1 nm id b D) := hf
  obtain ⟨hpc, hcut, _, _, hs1, hs2, hs3, hs4, hs5⟩ := hf
  have HPC : Hid (pcB 46 s = d1 :: D) := hpc
  have HCT : Hid (cutV 35 d1 = .tuple #[.string nm, .string id, .bool b]) := hcut
  have HS4 : Hid (∀ i, i < D.length → (strAt D i).size ≤ 1048576) := hs4
  clear hpc hcut hs4
  go_enter Tryz.func41, Tryz.ntmps41
  go_wp2_with fail
  have HZ0 : Hid (CvP w.heap.size (w.alloc (.cells #[.string ⟨#[]⟩, .string ⟨#[]⟩, .slice none 0 0] 67)) ⟨#[]⟩ ⟨#[]⟩ (.slice none 0 0) []) := CvP.new _ _ _ _
  have HN0 : Hid (Nw w (w.alloc (.cells #[.string ⟨#[]⟩, .string ⟨#[]⟩, .slice none 0 0] 67))) := (Below.refl _ _).alloc (Nat.le_refl _) _
  refine Calls.mono (split1 s 46 _ hs) ?_
  rintro e w1 ⟨rfl, k1, l1⟩
  rw [World.size_alloc, HPC.out] at l1 ⊢
  have hlen : (d1 :: D).length = D.length + 1 := rfl
  rw [hlen] at l1 ⊢
  have HZ1 : Hid _ := HZ0.out.nw k1
  have HN1 : Hid (Nw w w1) := Nw.trans HN0.out k1
  have HL1 : Hid (LayS w1 (w.heap.size + 1) (d1 :: D) (D.length + 1)) := l1
  have p0 : w1.cell? ⟨w.heap.size + 1, 0, none⟩ = some (.string d1) := l1.2.1 0 (by omega)
  have hg1 : w.heap.size + 1 < w1.heap.size := l1.1
  clear k1 l1 HZ0 HN0
  go_wp2_with fail
  refine Calls.mono (cut1 d1 35 _ hs1) ?_
  rw [HCT.out]
  rintro e w2 ⟨rfl, k2⟩
  have HZ2 : Hid _ := HZ1.out.nw k2
  have HN2 : Hid (Nw w w2) := Nw.trans HN1.out k2
  have HL2 : Hid (LayS w2 (w.heap.size + 1) (d1 :: D) (D.length + 1)) := HL1.out.nw k2
  clear k2 HZ1 HN1 HL1 p0 HCT
  go_wp2_with fail
  refine Calls.mono (clone_any _ nm hs2) ?_
  rintro e w3 ⟨rfl, k3⟩
  have HZ3 : Hid _ := HZ2.out.nw k3
  have HN3 : Hid (Nw w w3) := Nw.trans HN2.out k3
  have HL3 : Hid (LayS w3 (w.heap.size + 1) (d1 :: D) (D.length + 1)) := HL2.out.nw k3
  clear k3 HZ2 HN2 HL2
  go_wp2_with fail
  refine Calls.mono (clone_any _ id hs3) ?_
  rintro e w4 ⟨rfl, k4⟩
  have HZ4 : Hid _ := HZ3.out.nw k4
  have HN4 : Hid (Nw w w4) := Nw.trans HN3.out k4
  have HL4 : Hid (LayS w4 (w.heap.size + 1) (d1 :: D) (D.length + 1)) := HL3.out.nw k4
  have hg4 : w.heap.size + 1 < w4.heap.size := HL4.out.1
  have HLT4 : Hid (w.heap.size < w4.heap.size) := by show _ < _; omega
  clear k4 HZ3 HN3 HL3 hg1
  by_cases hD : D.length = 0
  · have HD2 : Hid (D = []) := List.eq_nil_of_length_eq_zero hD
    go_wp2
    go_loopw [29] (fun i wr => i = .int .i64 0 ∧ Nw w4 wr ∧ w4.heap.size < wr.heap.size ∧ ∃ v, CvP w4.heap.size wr nm id v []) (fun _ _ => 0)
    case atStart => exact ⟨rfl, (Below.refl _ _).alloc (Nat.le_refl _) _, by simp, _, CvP.new _ _ _ _⟩
    case round =>
      obtain ⟨rfl, hw, hbx, v, hcb⟩ := hrel
      have HWR : Hid (Nw w4 wr) := hw
      have HCB : Hid (CvP w4.heap.size wr nm id v D) := by show CvP _ _ _ _ _ _; rw [HD2.out]; exact hcb
      clear hw hcb hD
      obtain ⟨b0, b1, b2, bf, bo⟩ := HCB.out
      obtain ⟨va, vc, rfl, hst⟩ := bo.strs
      have HST : Hid (Strs wr va D) := hst
      have HBO : Hid (Txs wr (w4.heap.size + 1) (.slice va D.length vc) D) := bo
      clear bo hst HCB
      go_wp2_with fail
      refine Calls.mono (igoodPart _ nm id D va vc ⟨hs2, hs3, hs5, HS4.out⟩ HST.out) ?_
      rintro e w9 ⟨rfl, k9⟩
      have HZ9 : Hid _ := HZ4.out.nw (Nw.trans HWR.out k9)
      have HN9 : Hid (Nw w w9) := Nw.trans HN4.out (Nw.trans HWR.out k9)
      have HB9 : Hid (Txs w9 (w4.heap.size + 1) (.slice va D.length vc) D) := HBO.out.nw k9
      have d0 := ((bcell k9).1 _ _ hbx).trans b0
      have d1' := ((bcell k9).1 _ _ hbx).trans b1
      have d2 := ((bcell k9).1 _ _ hbx).trans b2
      obtain ⟨z0, z1, z2, zf, _⟩ := HZ9.out
      cases hG : partB ⟨nm, id, D⟩
      · have HP : Hid (prP s = none) := HF.out.no (Or.inl hG)
        obtain ⟨y0, y1, y2⟩ := set3c w9 w.heap.size (.string ⟨#[]⟩) (.string ⟨#[]⟩) (.slice none 0 0) z0 z1 z2
        clear b0 b1 b2 bf hG
        go_wp2
        refine bodyPost_ret (v := .tuple #[.agg #[.string ⟨#[]⟩, .string ⟨#[]⟩, .slice none 0 0], .bool false]) (by simp [results, Tryz.results41, go_sem, y0, y1, y2]) rfl ⟨Or.inr ⟨HP.out, _, _, _, _, _, rfl⟩, ?_⟩
        exact ((HN9.out.setCell (Nat.le_refl _) _).setCell (Nat.le_refl _) _).setCell (Nat.le_refl _) _
      · cases b
        · have HP : Hid (prP s = some ⟨nm, id, D⟩) := HF.out.yes hG (fun h => by cases h.1)
          obtain ⟨y0, y1, y2⟩ := set3c w9 w.heap.size (.string nm) (.string id) (.slice va D.length vc) z0 z1 z2
          clear b0 b1 b2 bf hG
          go_wp2
          refine bodyPost_ret (v := .tuple #[.agg #[.string nm, .string id, .slice va D.length vc], .bool true]) (by simp [results, Tryz.results41, go_sem, y0, y1, y2]) rfl ⟨Or.inl ⟨⟨nm, id, D⟩, _, HP.out, rfl, ?_⟩, ?_⟩
          · exact done_cls HB9.out HN9.out HLT4.out
          · exact ((HN9.out.setCell (Nat.le_refl _) _).setCell (Nat.le_refl _) _).setCell (Nat.le_refl _) _
        · by_cases hi : id.size = 0
          · obtain rfl := empty_of hi
            have HP : Hid (prP s = none) := HF.out.no (Or.inr ⟨rfl, rfl⟩)
            obtain ⟨y0, y1, y2⟩ := set3c w9 w.heap.size (.string ⟨#[]⟩) (.string ⟨#[]⟩) (.slice none 0 0) z0 z1 z2
            clear b0 b1 b2 bf hG
            go_wp2
            refine bodyPost_ret (v := .tuple #[.agg #[.string ⟨#[]⟩, .string ⟨#[]⟩, .slice none 0 0], .bool false]) (by simp [results, Tryz.results41, go_sem, y0, y1, y2]) rfl ⟨Or.inr ⟨HP.out, _, _, _, _, _, rfl⟩, ?_⟩
            exact ((HN9.out.setCell (Nat.le_refl _) _).setCell (Nat.le_refl _) _).setCell (Nat.le_refl _) _
          · have n1 := ne_nil (s := id) (by omega)
            have n2 := ne_emp (s := id) (by omega)
            have HP : Hid (prP s = some ⟨nm, id, D⟩) := HF.out.yes hG (fun h => hi (by rw [h.2]; rfl))
            obtain ⟨y0, y1, y2⟩ := set3c w9 w.heap.size (.string nm) (.string id) (.slice va D.length vc) z0 z1 z2
            clear b0 b1 b2 bf hG
            go_wp2
            refine bodyPost_ret (v := .tuple #[.agg #[.string nm, .string id, .slice va D.length vc], .bool true]) (by simp [results, Tryz.results41, go_sem, y0, y1, y2]) rfl ⟨Or.inl ⟨⟨nm, id, D⟩, _, HP.out, rfl, ?_⟩, ?_⟩
            · exact done_cls HB9.out HN9.out HLT4.out
            · exact ((HN9.out.setCell (Nat.le_refl _) _).setCell (Nat.le_refl _) _).setCell (Nat.le_refl _) _
  · have hDp : 0 < D.length := by omega
    go_wp2
    go_loopw [29] (fun i wr => ∃ j : Nat, j ≤ D.length ∧ i = .int .i64 j ∧ Nw w4 wr ∧ w4.heap.size < wr.heap.size ∧ ∃ v, CvP w4.heap.size wr nm id v (D.take j)) (fun i _ => D.length - (intOf i).toNat)
    case atStart => exact ⟨0, Nat.zero_le _, rfl, (Below.refl _ _).alloc (Nat.le_refl _) _, by simp, _, CvP.new _ _ _ _⟩
    case round =>
      obtain ⟨j, hj, rfl, hw, hbx, v, hcb⟩ := hrel
      have HWR : Hid (Nw w4 wr) := hw
      by_cases hlt : j < D.length
      · obtain ⟨va, vc, rfl⟩ := hcb.own.slice
        have hq : wr.cell? ⟨w.heap.size + 1, 1 + j, none⟩ = some (.string (strAt D j)) := by
          have := (HL4.out.nw hw).2.1 (j + 1) (by omega)
          rw [Nat.add_comm 1 j, this]
          rfl
        have HCB : Hid (CvP w4.heap.size wr nm id (.slice va (D.take j).length vc) (D.take j)) := hcb
        have hx := HS4.out j hlt
        have HT : Hid (D.take (j + 1) = D.take j ++ [strAt D j]) := by
          show _ = _
          rw [List.take_succ_eq_append_getElem hlt]
          simp [strAt, hlt]
        have HLE : Hid ((D.take j).length ≤ 2000000) := by show _ ≤ _; rw [List.length_take]; omega
        clear hw hcb
        generalize strAt D j = x at *
        generalize D.take j = L at *
        go_wp2
        refine reg_change (ops' := opsOf 7 Tryz.f41) (by kernel_rfl) ?_
        refine IP7.run ⟨w4.heap.size, nm, id, va, vc, L, x, wr.drew, _⟩ ⟨CvP.nw HCB.out ((Below.refl _ _).drew), HLE.out, hx, rfl, rfl, rfl⟩ wr (Below.refl _ _) ?_
        rintro γ w9 ⟨w7, w8, k1, o1, y1, rfl⟩
        simp only at o1 y1 k1 ⊢
        have HPT : Hid _ := CvP.put ((CvP.nw HCB.out ((Below.refl _ _).drew)).nw k1) y1 o1
        have HK1 : Hid (Nw wr w7) := Nw.trans ((Below.refl _ _).drew) k1
        have HSZ : Hid (w7.heap.size ≤ w8.heap.size) := y1.size
        generalize γ 2 = v' at *
        generalize γ 1 = v1 at *
        generalize γ 0 = v0 at *
        obtain ⟨sa, sc, g1⟩ := o1.slice
        subst g1
        have hLx : (L ++ [x]).length = L.length + 1 := by simp
        rw [hLx] at HPT ⊢
        clear hLx
        clear o1 y1 k1 hx hq
        simp only [Act.put, List.setIfInBounds_toArray, List.set_cons_zero, List.set_cons_succ]
        go_wp2
        go_roundw
        case rel => exact ⟨j + 1, by omega, by go_num, Below.trans (Nw.trans HWR.out HK1.out) (Below.mono HPT.out.2 (Nat.le_refl _)), by have := Below.size HK1.out; have := HSZ.out; simp [World.setCell]; omega, _, by rw [HT.out]; exact HPT.out.1⟩
        case measure => simp [intOf]; omega
      · have hj2 : j = D.length := by omega
        subst hj2
        rw [List.take_length] at hcb
        have HCB : Hid (CvP w4.heap.size wr nm id v D) := hcb
        clear hcb hw
        obtain ⟨b0, b1, b2, bf, bo⟩ := HCB.out
        obtain ⟨va, vc, rfl, hst⟩ := bo.strs
        have HST : Hid (Strs wr va D) := hst
        have HBO : Hid (Txs wr (w4.heap.size + 1) (.slice va D.length vc) D) := bo
        clear bo hst HCB
        go_wp2_with fail
        refine Calls.mono (igoodPart _ nm id D va vc ⟨hs2, hs3, hs5, HS4.out⟩ HST.out) ?_
        rintro e w9 ⟨rfl, k9⟩
        have HZ9 : Hid _ := HZ4.out.nw (Nw.trans HWR.out k9)
        have HN9 : Hid (Nw w w9) := Nw.trans HN4.out (Nw.trans HWR.out k9)
        have HB9 : Hid (Txs w9 (w4.heap.size + 1) (.slice va D.length vc) D) := HBO.out.nw k9
        have d0 := ((bcell k9).1 _ _ hbx).trans b0
        have d1' := ((bcell k9).1 _ _ hbx).trans b1
        have d2 := ((bcell k9).1 _ _ hbx).trans b2
        obtain ⟨z0, z1, z2, zf, _⟩ := HZ9.out
        cases hG : partB ⟨nm, id, D⟩
        · have HP : Hid (prP s = none) := HF.out.no (Or.inl hG)
          obtain ⟨y0, y1, y2⟩ := set3c w9 w.heap.size (.string ⟨#[]⟩) (.string ⟨#[]⟩) (.slice none 0 0) z0 z1 z2
          clear b0 b1 b2 bf hG
          go_wp2
          refine bodyPost_ret (v := .tuple #[.agg #[.string ⟨#[]⟩, .string ⟨#[]⟩, .slice none 0 0], .bool false]) (by simp [results, Tryz.results41, go_sem, y0, y1, y2]) rfl ⟨Or.inr ⟨HP.out, _, _, _, _, _, rfl⟩, ?_⟩
          exact ((HN9.out.setCell (Nat.le_refl _) _).setCell (Nat.le_refl _) _).setCell (Nat.le_refl _) _
        · cases b
          · have HP : Hid (prP s = some ⟨nm, id, D⟩) := HF.out.yes hG (fun h => by cases h.1)
            obtain ⟨y0, y1, y2⟩ := set3c w9 w.heap.size (.string nm) (.string id) (.slice va D.length vc) z0 z1 z2
            clear b0 b1 b2 bf hG
            go_wp2
            refine bodyPost_ret (v := .tuple #[.agg #[.string nm, .string id, .slice va D.length vc], .bool true]) (by simp [results, Tryz.results41, go_sem, y0, y1, y2]) rfl ⟨Or.inl ⟨⟨nm, id, D⟩, _, HP.out, rfl, ?_⟩, ?_⟩
            · exact done_cls HB9.out HN9.out HLT4.out
            · exact ((HN9.out.setCell (Nat.le_refl _) _).setCell (Nat.le_refl _) _).setCell (Nat.le_refl _) _
          · by_cases hi : id.size = 0
            · obtain rfl := empty_of hi
              have HP : Hid (prP s = none) := HF.out.no (Or.inr ⟨rfl, rfl⟩)
              obtain ⟨y0, y1, y2⟩ := set3c w9 w.heap.size (.string ⟨#[]⟩) (.string ⟨#[]⟩) (.slice none 0 0) z0 z1 z2
              clear b0 b1 b2 bf hG
              go_wp2
              refine bodyPost_ret (v := .tuple #[.agg #[.string ⟨#[]⟩, .string ⟨#[]⟩, .slice none 0 0], .bool false]) (by simp [results, Tryz.results41, go_sem, y0, y1, y2]) rfl ⟨Or.inr ⟨HP.out, _, _, _, _, _, rfl⟩, ?_⟩
              exact ((HN9.out.setCell (Nat.le_refl _) _).setCell (Nat.le_refl _) _).setCell (Nat.le_refl _) _
            · have n1 := ne_nil (s := id) (by omega)
              have n2 := ne_emp (s := id) (by omega)
              have HP : Hid (prP s = some ⟨nm, id, D⟩) := HF.out.yes hG (fun h => hi (by rw [h.2]; rfl))
              obtain ⟨y0, y1, y2⟩ := set3c w9 w.heap.size (.string nm) (.string id) (.slice va D.length vc) z0 z1 z2
              clear b0 b1 b2 bf hG
              go_wp2
              refine bodyPost_ret (v := .tuple #[.agg #[.string nm, .string id, .slice va D.length vc], .bool true]) (by simp [results, Tryz.results41, go_sem, y0, y1, y2]) rfl ⟨Or.inl ⟨⟨nm, id, D⟩, _, HP.out, rfl, ?_⟩, ?_⟩
              · exact done_cls HB9.out HN9.out HLT4.out
              · exact ((HN9.out.setCell (Nat.le_refl _) _).setCell (Nat.le_refl _) _).setCell (Nat.le_refl _) _
end Go.Proofs.YtnkmdmmlpidcmaaGreatDoor
