/-
  Regions whose acting operations come up in any order, in sho
-/
import Derived.Test.YtnkeljmecbohkaaGreatJAF
import Derived.Test.YtnkeljmecbohkaaGreatJAE
import Derived.Test.YtnkeljmecbohkaaGreatJAC
import Derived.Test.YtnkeljmecbohkaaGreatJAA
import Derived.Test.YtnkeljmecbohkaaGreatJAB
import Derived.Laws.Bits64b
namespace Go.Proofs.YtnkeljmecbohkaaGreat
open Go.ChangeShapes Go.WideShapes Go.ChangeAt Go.RowKit
set_option linter.unusedVariables false
section
variable {ops : Array Oper} {acts : List Nat} {av : Nat → Option Nat} {ext : Nat → Value → Value} {val0 : Nat → Value} {Wd : (Nat → Bool) → (Nat → Value) → World → Prop} {a0 : Act} {Q : PQ} {L : List (Option Nat × Op × Option (Nat × Bool))} {ini : List Nat} {nt : Nat}
theorem knownH {γ : Nat → Value} {listed : Array Bool} {a : Act} {i : Nat} {o : Oper} (hF : FrI ops (valH av ext val0 γ) a0 listed a) (ho : ops[i]? = some o) (h2 : ∀ e ∈ o.after, Region.binds .any e = true → listed.getD e.on false = true)
  (hI : ∀ n ∈ ini, a0.eval (.tmp n) = val0 n) (hs : a0.tmps.size = nt) {x : Operand} (h : srcB ops av ini nt i x = true) : a.eval x = envR (valH av ext val0 γ) x := by
 cases x with
 | tmp n =>
  simp only [srcB, Bool.and_eq_true, Bool.or_eq_true, decide_eq_true_eq, List.any_eq_true] at h
  obtain ⟨hn, ⟨j, _, hw, hd⟩ | ⟨⟨hm, hv⟩, hno⟩⟩ := h
  ·exact slotH hF ho h2 hw hd (by rw [hs]; exact hn)
  ·rw [hF.eval0 hno, hI n hm]
   show val0 n = valH av ext val0 γ n
   unfold valH
   rw [Option.isNone_iff_eq_none.1 hv]
 | const c => rfl
 | global g => rfl
 | func f => rfl
theorem st_plainH (hL : ops.toList.map tri = L) (hI : ∀ n ∈ ini, a0.eval (.tmp n) = val0 n) (hs : a0.tmps.size = nt) {i d : Nat} {y : Op} (hl : L[i]? = some (some d, y, none)) (hk : plainB ops acts av ini nt i d y = true)
  (hx : ∀ γ w S (o : Oper), Wd S γ w → o.op = y → (execOp (envR (valH av ext val0 γ)) o).run Tryz.prog w = .ok (.value (val0 d)) w) : StepH ops acts av ext val0 Wd a0 Q i := by
 intro γ listed a w o hF hC hW h1 ho h2
 obtain ⟨hd, hop, hg⟩ := fieldsL hL hl ho
 unfold plainB at hk
 simp only [Bool.and_eq_true, decide_eq_true_eq] at hk
 obtain ⟨⟨h3, h4⟩, h5⟩ := hk
 refine st_pureH hF hC hW ho h2 h3 hd hg ?_
 have e : valH av ext val0 γ d = val0 d := by unfold valH; rw [Option.isNone_iff_eq_none.1 h4]
 rw [e]
 cases hr : readsOf y with
 | none => rw [hr] at h5; cases h5
 | some l =>
  rw [hr] at h5
  rw [← hop] at hr
  rw [exec_same hr fun x hx => knownH hF ho h2 hI hs (List.all_eq_true.1 h5 x hx)]
  exact hx γ w _ o hW hop
theorem st_callL (hL : ops.toList.map tri = L) (hI : ∀ n ∈ ini, a0.eval (.tmp n) = val0 n) (hs : a0.tmps.size = nt) {i d : Nat} {f : FuncId} {args : Array Operand} {ts : Array TypeId} (hl : L[i]? = some (some d, .call { callee := .value (.func f), args := args, argTypes := ts }, none)) (hk : callB ops acts av ini nt i d args = true) (hf : ∀ v w, (callFunc f v).run Tryz.prog w = .ok (.enter f v) w)
  (hx : ∀ γ w S, Wd S γ w → Calls Tryz.prog f (args.toList.map (envR (valH av ext val0 γ))).toArray w fun e w' => e = .returned (val0 d) ∧ Kp w w') (hp : ∀ γ w S w', Wd S γ w → Kp w w' → Wd S γ w') : StepH ops acts av ext val0 Wd a0 Q i := by
 intro γ listed a w o hF hC hW h1 ho h2
 obtain ⟨hd, hop, hg⟩ := fieldsL hL hl ho
 unfold callB at hk
 simp only [Bool.and_eq_true, decide_eq_true_eq] at hk
 obtain ⟨⟨h3, h4⟩, h5⟩ := hk
 have e : args.map a.eval = (args.toList.map (envR (valH av ext val0 γ))).toArray := by
  apply Array.ext'
  rw [Array.toList_map]
  exact List.map_congr_left fun x hx => knownH hF ho h2 hI hs (List.all_eq_true.1 h5 x hx)
 refine st_callQ hF hC ho h2 h3 hd hg (Option.isNone_iff_eq_none.1 h4) (f := f) (args := (args.toList.map (envR (valH av ext val0 γ))).toArray) ?_ (hx γ w _ hW) (fun w' => hp γ w _ w' hW)
 rw [← e]
 have ef : a.eval (.func f) = .func (.func f) #[] #[] := rfl
 generalize a.eval = ρ at ef ⊢
 unfold execOp
 rw [hop]
 simp [ef, hf, go_sem]
end
set_option linter.unusedSimpArgs false
structure SO6 where
 bl : Nat
 bp : Nat
 sa : Option Addr
 sn : Nat
 sc : Nat
 cl : Bool
 h : Int
 j : Int
 fv : Value
 P1 : World → Value → Prop
 P2 : World → Value → Value → Prop
 R : World → Value → Prop
 W : World
 a0 : Act
structure SO6Ok (X : SO6) : Prop where
 cc : X.W.cell? ⟨X.bl, 1, none⟩ = some (.bool X.cl)
 cj : X.W.cell? ⟨X.bp, 1, none⟩ = some (.int .i64 X.j)
 h1 : Calls Tryz.prog 72 #[.slice X.sa X.sn X.sc] X.W fun e w' => ∃ v, e = .returned v ∧ X.P1 w' v
 n1 : ∀ w v, X.P1 w v → Nw X.W w ∧ ∃ a n c, v = .slice a n c
 hj : ∀ w, Calls Tryz.prog 74 #[.int .i64 X.j] w fun e w' => e = .returned X.fv ∧ w' = w
 h2 : ∀ w v, X.P1 w v → Calls Tryz.prog 73 #[.slice X.sa X.sn X.sc, .bool X.cl, .int .i64 X.h, X.fv] w fun e w' => ∃ v', e = .returned v' ∧ X.P2 w' v v'
 n2 : ∀ w v v', X.P2 w v v' → Nw X.W w ∧ (∃ a n c, v = .slice a n c) ∧ ∃ a n c, v' = .slice a n c
 h3 : ∀ w v v', X.P2 w v v' → Calls Tryz.prog 71 #[.slice (some ⟨w.heap.size, 0, none⟩) 2 2] (w.alloc (.cells #[v, v'] 29)) fun e w' => ∃ u, e = .returned u ∧ X.R w' u
 e2 : X.a0.eval (.tmp 2) = .pointer (some ⟨X.bl, 0, none⟩)
 e3 : X.a0.eval (.tmp 3) = .pointer (some ⟨X.bp, 0, none⟩)
 e6 : X.a0.eval (.tmp 6) = .int .i64 (X.h)
 e7 : X.a0.eval (.tmp 7) = .slice X.sa X.sn X.sc
 sz : X.a0.tmps.size = 77
def SO6.val0 (X : SO6) : Nat → Value
 | 2 => .pointer (some ⟨X.bl, 0, none⟩)
 | 3 => .pointer (some ⟨X.bp, 0, none⟩)
 | 6 => .int .i64 (X.h)
 | 7 => .slice X.sa X.sn X.sc
 | 25 => .slice X.sa X.sn X.sc
 | 27 => .slice X.sa X.sn X.sc
 | 28 => .pointer (some ⟨X.bl, 1, none⟩)
 | 29 => .bool X.cl
 | 30 => .int .i64 (X.h)
 | 31 => .pointer (some ⟨X.bp, 1, none⟩)
 | 32 => .int .i64 (X.j)
 | _ => undef
def SO6.av : Nat → Option Nat
 | 26 => some 0
 | 33 => some 1
 | 34 => some 2
 | 35 => some 3
 | 36 => some 4
 | 8 => some 5
 | _ => none
def SO6.acts : List Nat := [1, 8, 9, 10, 11, 12]
def SO6.Wd (X : SO6) : Nat → (Nat → Value) → World → Prop
  | 0, _, w => w = X.W
  | 1, γ, w => X.P1 w (γ 0)
  | 2, γ, w => γ 1 = X.fv ∧ X.P1 w (γ 0)
  | 3, γ, w => X.P2 w (γ 0) (γ 2)
  | 4, γ, w => ∃ w1, X.P2 w1 (γ 0) (γ 2) ∧ γ 3 = .slice (some ⟨w1.heap.size, 0, none⟩) 2 2 ∧ w = w1.alloc (.cells #[γ 0, γ 2] 29)
  | 5, γ, w => X.R w (γ 4)
  | _, γ, w => X.R w (γ 5)
theorem SO6.nw {X : SO6} (ok : ∀ w v, X.P1 w v → Nw X.W w) : ∀ {n : Nat} {γ : Nat → Value} {w : World}, n ≤ 2 → X.Wd n γ w → Nw X.W w
  | 0, _, w, _, h => by have : w = X.W := h; rw [this]; exact Below.refl _ _
  | 1, _, _, _, h => ok _ _ h
  | 2, _, _, _, ⟨_, h⟩ => ok _ _ h
  | _ + 3, _, _, h, _ => absurd h (by omega)
theorem SO6.chain : chainG (opsOf 6 Tryz.f43) SO6.acts = true := by kernel_rfl
theorem SO6.nodup : SO6.acts.Nodup := by decide
def SO6.L : List (Option Nat × Op × Option (Nat × Bool)) := [
 (some 25, .move (.tmp 7), none),
 (some 26, .call { callee := .value (.func 72), args := #[(.tmp 25)], argTypes := #[102] }, none),
 (some 27, .move (.tmp 7), none),
 (some 28, .fieldAddr 25 (.tmp 2) 1, none),
 (some 29, .load 4 (.tmp 28), none),
 (some 30, .move (.tmp 6), none),
 (some 31, .fieldAddr 36 (.tmp 3) 1, none),
 (some 32, .load 3 (.tmp 31), none),
 (some 33, .call { callee := .value (.func 74), args := #[(.tmp 32)], argTypes := #[3] }, none),
 (some 34, .call { callee := .value (.func 73), args := #[(.tmp 27), (.tmp 29), (.tmp 30), (.tmp 33)], argTypes := #[102, 4, 3, 107] }, none),
 (some 35, .buildSlice 126 2 #[(0, (.tmp 26)), (1, (.tmp 34))], none),
 (some 36, .call { callee := .value (.func 71), args := #[(.tmp 35)], argTypes := #[126] }, none),
 (some 8, .assign (.tmp 36), none)]
theorem SO6.isL : (opsOf 6 Tryz.f43).toList.map tri = SO6.L := by kernel_rfl
theorem SO6.ini {X : SO6} (ok : SO6Ok X) : ∀ n ∈ [2, 3, 6, 7], X.a0.eval (.tmp n) = X.val0 n := by
 simp only [List.forall_mem_cons]
 exact ⟨ok.e2, ok.e3, ok.e6, ok.e7, List.forall_mem_nil _⟩
abbrev SO6.St (X : SO6) (Q : PQ) (i : Nat) : Prop := StepG (opsOf 6 Tryz.f43) SO6.acts SO6.av X.val0 X.Wd X.a0 Q i
theorem SO6.plain (X : SO6) (ok : SO6Ok X) {Q : PQ} : ∀ i ∈ [0, 2, 3, 5, 6], SO6.St X Q i := by
 simp only [List.forall_mem_cons]
 refine ⟨?_, ?_, ?_, ?_, ?_, List.forall_mem_nil _⟩
 all_goals
  refine st_plain SO6.isL (SO6.ini ok) ok.sz rfl (by kernel_rfl) ?_
  intro γ w n o hW hop
  unfold execOp
  rw [hop]
  simp [envR, valG, SO6.av, SO6.val0, go_sem]
theorem SO6.s1 (X : SO6) (ok : SO6Ok X) {Q : PQ} : SO6.St X Q 1 := by
 intro γ listed a w o hF hC hW h1 ho h2
 obtain ⟨hd, hop, hg⟩ := fieldsL SO6.isL (i := 1) rfl ho
 have e25 : a.eval (.tmp 25) = .slice X.sa X.sn X.sc := known hF ho h2 (SO6.ini ok) ok.sz (by kernel_rfl)
 have ef : a.eval (.func 72) = .func (.func 72) #[] #[] := rfl
 have hu := unl (hF.lt ho) h1
 refine st_actG (k := 0) SO6.chain SO6.nodup rfl hF hC hW h1 ho h2 (Or.inr ⟨26, hd, rfl⟩) (injG (by kernel_rfl) hu) hg ?_
 intro hW0 K hK
 have hw0 : w = X.W := hW0
 have hr : (execOp a.eval o).run Tryz.prog w = .ok (.enter 72 #[.slice X.sa X.sn X.sc]) w := by
  generalize a.eval = ρ at e25 ef ⊢
  unfold execOp
  rw [hop]
  simp [e25, ef, go_sem]
 unfold Oper.wp
 rw [hr]
 refine Calls.mono (by rw [hw0]; exact ok.h1) ?_
 rintro e w' ⟨v, rfl, h⟩
 exact hK _ _ h
theorem SO6.s4 (X : SO6) (ok : SO6Ok X) {Q : PQ} : SO6.St X Q 4 := by
 intro γ listed a w o hF hC hW h1 ho h2
 obtain ⟨hd, hop, hg⟩ := fieldsL SO6.isL (i := 4) rfl ho
 have e28 : a.eval (.tmp 28) = .pointer (some ⟨X.bl, 1, none⟩) := known hF ho h2 (SO6.ini ok) ok.sz (by kernel_rfl)
 have hph := phase_leG (acts := SO6.acts) (m := 2) (x := 9) hC (unl (hF.lt ho) h1) rfl [4] (by kernel_rfl) (by decide)
 have hWW := hW
 generalize phase listed SO6.acts = n at hph hWW
 have hk : Nw X.W w := SO6.nw (fun w v h => (ok.n1 w v h).1) (by omega) hWW
 have hc0 := ((bcell hk).1 _ _ (World.block_lt_of_cell? X.W ⟨X.bl, 1, none⟩ ok.cc)).trans ok.cc
 refine st_pureG hF hC hW ho h2 (by decide) hd hg rfl ?_
 show _ = Result.ok (Next.value (.bool X.cl)) w
 generalize a.eval = ρ at e28 ⊢
 unfold execOp
 rw [hop]
 simp [e28, hc0, go_sem]
theorem SO6.s7 (X : SO6) (ok : SO6Ok X) {Q : PQ} : SO6.St X Q 7 := by
 intro γ listed a w o hF hC hW h1 ho h2
 obtain ⟨hd, hop, hg⟩ := fieldsL SO6.isL (i := 7) rfl ho
 have e31 : a.eval (.tmp 31) = .pointer (some ⟨X.bp, 1, none⟩) := known hF ho h2 (SO6.ini ok) ok.sz (by kernel_rfl)
 have hph := phase_leG (acts := SO6.acts) (m := 1) (x := 8) hC (unl (hF.lt ho) h1) rfl [7] (by kernel_rfl) (by decide)
 have hWW := hW
 generalize phase listed SO6.acts = n at hph hWW
 have hk : Nw X.W w := SO6.nw (fun w v h => (ok.n1 w v h).1) (by omega) hWW
 have hc0 := ((bcell hk).1 _ _ (World.block_lt_of_cell? X.W ⟨X.bp, 1, none⟩ ok.cj)).trans ok.cj
 refine st_pureG hF hC hW ho h2 (by decide) hd hg rfl ?_
 show _ = Result.ok (Next.value (.int .i64 (X.j))) w
 generalize a.eval = ρ at e31 ⊢
 unfold execOp
 rw [hop]
 simp [e31, hc0, go_sem]
theorem SO6.s8 (X : SO6) (ok : SO6Ok X) {Q : PQ} : SO6.St X Q 8 := by
 intro γ listed a w o hF hC hW h1 ho h2
 obtain ⟨hd, hop, hg⟩ := fieldsL SO6.isL (i := 8) rfl ho
 have e32 : a.eval (.tmp 32) = .int .i64 (X.j) := known hF ho h2 (SO6.ini ok) ok.sz (by kernel_rfl)
 have ef : a.eval (.func 74) = .func (.func 74) #[] #[] := rfl
 have hu := unl (hF.lt ho) h1
 refine st_actG (k := 1) SO6.chain SO6.nodup rfl hF hC hW h1 ho h2 (Or.inr ⟨33, hd, rfl⟩) (injG (by kernel_rfl) hu) hg ?_
 intro hW0 K hK
 have hr : (execOp a.eval o).run Tryz.prog w = .ok (.enter 74 #[.int .i64 X.j]) w := by
  generalize a.eval = ρ at e32 ef ⊢
  unfold execOp
  rw [hop]
  simp [e32, ef, go_sem]
 unfold Oper.wp
 rw [hr]
 refine Calls.mono (ok.hj _) ?_
 rintro e w' ⟨rfl, rfl⟩
 exact hK _ _ ⟨rfl, hW0⟩
theorem SO6.s9 (X : SO6) (ok : SO6Ok X) {Q : PQ} : SO6.St X Q 9 := by
 intro γ listed a w o hF hC hW h1 ho h2
 obtain ⟨hd, hop, hg⟩ := fieldsL SO6.isL (i := 9) rfl ho
 have e27 : a.eval (.tmp 27) = .slice X.sa X.sn X.sc := known hF ho h2 (SO6.ini ok) ok.sz (by kernel_rfl)
 have e29 : a.eval (.tmp 29) = .bool X.cl := known hF ho h2 (SO6.ini ok) ok.sz (by kernel_rfl)
 have e30 : a.eval (.tmp 30) = .int .i64 (X.h) := known hF ho h2 (SO6.ini ok) ok.sz (by kernel_rfl)
 have e33 : a.eval (.tmp 33) = γ 1 := known hF ho h2 (SO6.ini ok) ok.sz (by kernel_rfl)
 have ef : a.eval (.func 73) = .func (.func 73) #[] #[] := rfl
 have hu := unl (hF.lt ho) h1
 refine st_actG (k := 2) SO6.chain SO6.nodup rfl hF hC hW h1 ho h2 (Or.inr ⟨34, hd, rfl⟩) (injG (by kernel_rfl) hu) hg ?_
 intro hW0 K hK
 obtain ⟨g1, hP⟩ := hW0
 rw [g1] at e33
 have hr : (execOp a.eval o).run Tryz.prog w = .ok (.enter 73 #[.slice X.sa X.sn X.sc, .bool X.cl, .int .i64 X.h, X.fv]) w := by
  generalize a.eval = ρ at e27 e29 e30 e33 ef ⊢
  unfold execOp
  rw [hop]
  simp [e27, e29, e30, e33, ef, go_sem]
 unfold Oper.wp
 rw [hr]
 refine Calls.mono (ok.h2 _ _ hP) ?_
 rintro e w' ⟨v, rfl, h⟩
 exact hK _ _ h
theorem SO6.s10 (X : SO6) (ok : SO6Ok X) {Q : PQ} : SO6.St X Q 10 := by
 intro γ listed a w o hF hC hW h1 ho h2
 obtain ⟨hd, hop, hg⟩ := fieldsL SO6.isL (i := 10) rfl ho
 have e26 : a.eval (.tmp 26) = γ 0 := known hF ho h2 (SO6.ini ok) ok.sz (by kernel_rfl)
 have e34 : a.eval (.tmp 34) = γ 2 := known hF ho h2 (SO6.ini ok) ok.sz (by kernel_rfl)
 have hu := unl (hF.lt ho) h1
 refine st_actG (k := 3) SO6.chain SO6.nodup rfl hF hC hW h1 ho h2 (Or.inr ⟨35, hd, rfl⟩) (injG (by kernel_rfl) hu) hg ?_
 intro hW0 K hK
 obtain ⟨_, ⟨a1, n1, c1, q1⟩, ⟨a2, n2, c2, q2⟩⟩ := ok.n2 _ _ _ hW0
 have hr : (execOp a.eval o).run Tryz.prog w = .ok (.value (.slice (some ⟨w.heap.size, 0, none⟩) 2 2)) (w.alloc (.cells #[γ 0, γ 2] 29)) := by
  rw [q1] at e26 ⊢
  rw [q2] at e34 ⊢
  generalize a.eval = ρ at e26 e34 ⊢
  unfold execOp
  rw [hop]
  simp [e26, e34, go_sem]
 unfold Oper.wp
 rw [hr]
 exact hK _ _ ⟨w, hW0, rfl, rfl⟩
theorem SO6.s11 (X : SO6) (ok : SO6Ok X) {Q : PQ} : SO6.St X Q 11 := by
 intro γ listed a w o hF hC hW h1 ho h2
 obtain ⟨hd, hop, hg⟩ := fieldsL SO6.isL (i := 11) rfl ho
 have e35 : a.eval (.tmp 35) = γ 3 := known hF ho h2 (SO6.ini ok) ok.sz (by kernel_rfl)
 have ef : a.eval (.func 71) = .func (.func 71) #[] #[] := rfl
 have hu := unl (hF.lt ho) h1
 refine st_actG (k := 4) SO6.chain SO6.nodup rfl hF hC hW h1 ho h2 (Or.inr ⟨36, hd, rfl⟩) (injG (by kernel_rfl) hu) hg ?_
 intro hW0 K hK
 obtain ⟨w1, hP, g3, hw⟩ := hW0
 rw [g3] at e35
 have hr : (execOp a.eval o).run Tryz.prog w = .ok (.enter 71 #[.slice (some ⟨w1.heap.size, 0, none⟩) 2 2]) w := by
  generalize a.eval = ρ at e35 ef ⊢
  unfold execOp
  rw [hop]
  simp [e35, ef, go_sem]
 unfold Oper.wp
 rw [hr]
 refine Calls.mono (by rw [hw]; exact ok.h3 _ _ _ hP) ?_
 rintro e w' ⟨v, rfl, h⟩
 exact hK _ _ h
theorem SO6.s12 (X : SO6) (ok : SO6Ok X) {Q : PQ} : SO6.St X Q 12 := by
 intro γ listed a w o hF hC hW h1 ho h2
 obtain ⟨hd, hop, hg⟩ := fieldsL SO6.isL (i := 12) rfl ho
 have e36 : a.eval (.tmp 36) = γ 4 := known hF ho h2 (SO6.ini ok) ok.sz (by kernel_rfl)
 have hu := unl (hF.lt ho) h1
 refine st_actG (k := 5) SO6.chain SO6.nodup rfl hF hC hW h1 ho h2 (Or.inr ⟨8, hd, rfl⟩) (injG (by kernel_rfl) hu) hg ?_
 intro hW0 K hK
 have hr : (execOp a.eval o).run Tryz.prog w = .ok (.value (γ 4)) w := by
  generalize a.eval = ρ at e36 ⊢
  unfold execOp
  rw [hop]
  simp [e36, go_sem]
 unfold Oper.wp
 rw [hr]
 exact hK _ _ hW0
theorem SO6.size : (opsOf 6 Tryz.f43).size = 13 := by kernel_rfl
theorem SO6.rest (X : SO6) (ok : SO6Ok X) {Q : PQ} : ∀ i ∈ [1, 4, 7, 8, 9, 10, 11, 12], SO6.St X Q i := by
 simp only [List.forall_mem_cons]
 exact ⟨SO6.s1 X ok,
  SO6.s4 X ok,
  SO6.s7 X ok,
  SO6.s8 X ok,
  SO6.s9 X ok,
  SO6.s10 X ok,
  SO6.s11 X ok,
  SO6.s12 X ok, List.forall_mem_nil _⟩
theorem SO6.steps (X : SO6) (ok : SO6Ok X) {Q : PQ} (i : Nat) (hi : i < (opsOf 6 Tryz.f43).size) : SO6.St X Q i := by
 rw [SO6.size] at hi
 rcases (by decide : ∀ i, i < 13 → i ∈ [0, 2, 3, 5, 6] ∨ i ∈ [1, 4, 7, 8, 9, 10, 11, 12]) i hi with h | h
 · exact SO6.plain X ok i h
 · exact SO6.rest X ok i h
theorem SO6.run (X : SO6) (ok : SO6Ok X) {Q : PQ} (w : World) (h0 : X.Wd 0 (fun _ => undef) w.drew) (hend : ∀ (γ : Nat → Value) w', X.Wd 6 γ w' → Q .normal (((((((((((((X.a0.put (some 25) (.slice X.sa X.sn X.sc)).put (some 26) (γ 0)).put (some 27) (.slice X.sa X.sn X.sc)).put (some 28) (.pointer (some ⟨X.bl, 1, none⟩))).put (some 29) (.bool X.cl)).put (some 30) (.int .i64 (X.h))).put (some 31) (.pointer (some ⟨X.bp, 1, none⟩))).put (some 32) (.int .i64 (X.j))).put (some 33) (γ 1)).put (some 34) (γ 2)).put (some 35) (γ 3)).put (some 36) (γ 4)).put (some 8) (γ 5)) w') : (Code.region 6 (opsOf 6 Tryz.f43) true).wp Tryz.prog Q X.a0 w := by
 refine reg_act (acts := SO6.acts) (av := SO6.av) (val0 := X.val0) (Wd := X.Wd) (by kernel_rfl) (by kernel_rfl) (by rw [SO6.size]; decide) (fun i hi => SO6.steps X ok i hi) _ h0 ?_
 intro γ w' h
 exact end_at (hend γ w' h) (by kernel_rfl)
structure SO10 where
  f0 : Int
  f1 : Int
  f2 : Int
  f3 : Int
  f4 : Int
  f5 : Int
  l0 : Int
  l1 : Int
  l2 : Int
  l3 : Int
  l4 : Int
  l5 : Int
  g : Nat
  m : Nat
  c : Nat
  W : World
  a0 : Act
structure SO10Ok (X : SO10) : Prop where
  f0_ : X.W.cell? ⟨X.g, 0, none⟩ = some (.int .i64 X.f0)
  f1_ : X.W.cell? ⟨X.g, 1, none⟩ = some (.int .i64 X.f1)
  f2_ : X.W.cell? ⟨X.g, 2, none⟩ = some (.int .i64 X.f2)
  f3_ : X.W.cell? ⟨X.g, 3, none⟩ = some (.int .i64 X.f3)
  f4_ : X.W.cell? ⟨X.g, 4, none⟩ = some (.int .i64 X.f4)
  f5_ : X.W.cell? ⟨X.g, 5, none⟩ = some (.int .i64 X.f5)
  l0_ : X.W.cell? ⟨X.g, X.m * 6, none⟩ = some (.int .i64 X.l0)
  l1_ : X.W.cell? ⟨X.g, X.m * 6 + 1, none⟩ = some (.int .i64 X.l1)
  l2_ : X.W.cell? ⟨X.g, X.m * 6 + 2, none⟩ = some (.int .i64 X.l2)
  l3_ : X.W.cell? ⟨X.g, X.m * 6 + 3, none⟩ = some (.int .i64 X.l3)
  l4_ : X.W.cell? ⟨X.g, X.m * 6 + 4, none⟩ = some (.int .i64 X.l4)
  l5_ : X.W.cell? ⟨X.g, X.m * 6 + 5, none⟩ = some (.int .i64 X.l5)
  wr : IntKind.i64.wrap (X.m : Int) = (X.m : Int)
  lt : ¬ ((X.m : Int) + 1 ≤ (X.m : Int))
  e7 : X.a0.eval (.tmp 7) = .slice (some ⟨X.g, 0, none⟩) (X.m + 1) X.c
  sz : X.a0.tmps.size = 77
def SO10.val0 (X : SO10) : Nat → Value
  | 7 => .slice (some ⟨X.g, 0, none⟩) (X.m + 1) X.c
  | 43 => .slice (some ⟨X.g, 0, none⟩) (X.m + 1) X.c
  | 44 => .pointer (some ⟨X.g, 0, none⟩)
  | 45 => .agg #[.int .i64 X.f0, .int .i64 X.f1, .int .i64 X.f2, .int .i64 X.f3, .int .i64 X.f4, .int .i64 X.f5]
  | 46 => .slice (some ⟨X.g, 0, none⟩) (X.m + 1) X.c
  | 47 => .slice (some ⟨X.g, 0, none⟩) (X.m + 1) X.c
  | 48 => .int .i64 ((X.m + 1 : Nat) : Int)
  | 49 => .int .i64 (X.m : Int)
  | 50 => .pointer (some ⟨X.g, X.m * 6, none⟩)
  | 51 => .agg #[.int .i64 X.l0, .int .i64 X.l1, .int .i64 X.l2, .int .i64 X.l3, .int .i64 X.l4, .int .i64 X.l5]
  | _ => undef
def SO10.av : Nat → Option Nat
  | 10 => some 0
  | 11 => some 1
  | _ => none
def SO10.ext : Nat → Value → Value
  | _ => fun u => u
def SO10.acts : List Nat := [9, 10, 11, 12]
theorem SO10.nodup : SO10.acts.Nodup := by decide
abbrev SO10.Wd (X : SO10) : (Nat → Bool) → (Nat → Value) → World → Prop := TwoWd X.W [.int .i64 0, .int .i64 0, .int .i64 0, .int .i64 0, .int .i64 0, .int .i64 0] [.int .i64 X.f0, .int .i64 X.f1, .int .i64 X.f2, .int .i64 X.f3, .int .i64 X.f4, .int .i64 X.f5] [.int .i64 X.l0, .int .i64 X.l1, .int .i64 X.l2, .int .i64 X.l3, .int .i64 X.l4, .int .i64 X.l5]
abbrev SO10.St (X : SO10) (Q : PQ) (i : Nat) : Prop := StepH (opsOf 10 Tryz.f43) SO10.acts SO10.av SO10.ext X.val0 X.Wd X.a0 Q i
def SO10.L : List (Option Nat × Op × Option (Nat × Bool)) := [
 (some 43, .move (.tmp 7), none),
 (some 44, .indexAddr 102 (.tmp 43) (.const (.int .i64 0)), none),
 (some 45, .load 112 (.tmp 44), none),
 (some 46, .move (.tmp 7), none),
 (some 47, .move (.tmp 7), none),
 (some 48, .call { callee := .builtin .len, args := #[(.tmp 47)], argTypes := #[102] }, none),
 (some 49, .binOp .sub 3 (.tmp 48) (.const (.int .i64 1)) 3, none),
 (some 50, .indexAddr 102 (.tmp 46) (.tmp 49), none),
 (some 51, .load 112 (.tmp 50), none),
 (some 10, .alloc 112, none),
 (some 11, .alloc 112, none),
 (none, .store 112 (.tmp 10) (.tmp 45), none),
 (none, .store 112 (.tmp 11) (.tmp 51), none)]
theorem SO10.isL : (opsOf 10 Tryz.f43).toList.map tri = SO10.L := by kernel_rfl
theorem SO10.ini {X : SO10} (ok : SO10Ok X) : ∀ n ∈ [7], X.a0.eval (.tmp n) = X.val0 n := by
 simp only [List.forall_mem_cons]
 exact ⟨ok.e7, List.forall_mem_nil _⟩
theorem SO10.plain (X : SO10) (ok : SO10Ok X) {Q : PQ} : ∀ i ∈ [0, 1, 2, 3, 4, 5, 6, 7, 8], SO10.St X Q i := by
 simp only [List.forall_mem_cons]
 refine ⟨?_, ?_, ?_, ?_, ?_, ?_, ?_, ?_, ?_, List.forall_mem_nil _⟩
 all_goals
  refine st_plainH SO10.isL (SO10.ini ok) ok.sz rfl (by kernel_rfl) ?_
  intro γ w S o hW hop
  have hc_f0_ := rq_at hW.kp ok.f0_
  have hc_f1_ := rq_at hW.kp ok.f1_
  have hc_f2_ := rq_at hW.kp ok.f2_
  have hc_f3_ := rq_at hW.kp ok.f3_
  have hc_f4_ := rq_at hW.kp ok.f4_
  have hc_f5_ := rq_at hW.kp ok.f5_
  have hc_l0_ := rq_at hW.kp ok.l0_
  have hc_l1_ := rq_at hW.kp ok.l1_
  have hc_l2_ := rq_at hW.kp ok.l2_
  have hc_l3_ := rq_at hW.kp ok.l3_
  have hc_l4_ := rq_at hW.kp ok.l4_
  have hc_l5_ := rq_at hW.kp ok.l5_
  unfold execOp
  rw [hop]
  simp [envR, valH, SO10.av, SO10.val0, ok.wr, ok.lt, hc_f0_, hc_f1_, hc_f2_, hc_f3_, hc_f4_, hc_f5_, hc_l0_, hc_l1_, hc_l2_, hc_l3_, hc_l4_, hc_l5_, go_sem]
theorem SO10.s9 (X : SO10) (ok : SO10Ok X) {Q : PQ} : SO10.St X Q 9 := by
 intro γ listed a w o hF hC hW h1 ho h2
 obtain ⟨hd, hop, hg⟩ := fieldsL SO10.isL (i := 9) rfl ho
 have hu := unl (hF.lt ho) h1
 have hno : upOf listed SO10.acts 2 = false := up_no hC hu rfl [9] (by kernel_rfl) (by decide)
 refine st_actH (k := 0) (ps := []) SO10.nodup rfl (by kernel_rfl) hF hC h1 ho h2 (Or.inr ⟨10, hd, rfl, fun _ => rfl⟩) hg ?_
 intro K hK
 have hr : (execOp a.eval o).run Tryz.prog w = .ok (.value (.pointer (some ⟨w.heap.size, 0, none⟩))) (w.alloc (.cells #[.int .i64 0, .int .i64 0, .int .i64 0, .int .i64 0, .int .i64 0, .int .i64 0] 112)) := by
  unfold execOp
  rw [hop]
  simp [go_sem]
 unfold Oper.wp
 rw [hr]
 exact hK _ _ (hW.alloc0 hno _)
theorem SO10.s10 (X : SO10) (ok : SO10Ok X) {Q : PQ} : SO10.St X Q 10 := by
 intro γ listed a w o hF hC hW h1 ho h2
 obtain ⟨hd, hop, hg⟩ := fieldsL SO10.isL (i := 10) rfl ho
 have hu := unl (hF.lt ho) h1
 have hno : upOf listed SO10.acts 3 = false := up_no hC hu rfl [10] (by kernel_rfl) (by decide)
 refine st_actH (k := 1) (ps := []) SO10.nodup rfl (by kernel_rfl) hF hC h1 ho h2 (Or.inr ⟨11, hd, rfl, fun _ => rfl⟩) hg ?_
 intro K hK
 have hr : (execOp a.eval o).run Tryz.prog w = .ok (.value (.pointer (some ⟨w.heap.size, 0, none⟩))) (w.alloc (.cells #[.int .i64 0, .int .i64 0, .int .i64 0, .int .i64 0, .int .i64 0, .int .i64 0] 112)) := by
  unfold execOp
  rw [hop]
  simp [go_sem]
 unfold Oper.wp
 rw [hr]
 exact hK _ _ (hW.alloc1 hno _)
theorem SO10.s11 (X : SO10) (ok : SO10Ok X) {Q : PQ} : SO10.St X Q 11 := by
 intro γ listed a w o hF hC hW h1 ho h2
 obtain ⟨hd, hop, hg⟩ := fieldsL SO10.isL (i := 11) rfl ho
 have e10 : a.eval (.tmp 10) = γ 0 := knownH hF ho h2 (SO10.ini ok) ok.sz (by kernel_rfl)
 have e45 : a.eval (.tmp 45) = .agg #[.int .i64 X.f0, .int .i64 X.f1, .int .i64 X.f2, .int .i64 X.f3, .int .i64 X.f4, .int .i64 X.f5] := knownH hF ho h2 (SO10.ini ok) ok.sz (by kernel_rfl)
 have hs : upOf listed SO10.acts 0 = true := up_yes hC ho h2 (j := 9) rfl [9] (by kernel_rfl) (by decide)
 have hno : upOf listed SO10.acts 2 = false := up_self rfl (unl (hF.lt ho) h1)
 refine st_actH (k := 2) (ps := []) SO10.nodup rfl (by kernel_rfl) hF hC h1 ho h2 (Or.inl hd) hg ?_
 intro K hK
 have hl := hW.l0 hs
 rw [hno] at hl
 obtain ⟨g, g1, g2, g3, zf, zc⟩ := hl
 rw [g1] at e10
 have z0 : w.cell? ⟨g, 0, none⟩ = some (.int .i64 0) := zc 0 (by decide)
 have z1 : w.cell? ⟨g, 1, none⟩ = some (.int .i64 0) := zc 1 (by decide)
 have z2 : w.cell? ⟨g, 2, none⟩ = some (.int .i64 0) := zc 2 (by decide)
 have z3 : w.cell? ⟨g, 3, none⟩ = some (.int .i64 0) := zc 3 (by decide)
 have z4 : w.cell? ⟨g, 4, none⟩ = some (.int .i64 0) := zc 4 (by decide)
 have z5 : w.cell? ⟨g, 5, none⟩ = some (.int .i64 0) := zc 5 (by decide)
 have hr : (execOp a.eval o).run Tryz.prog w = .ok .skip ((((((w.setCell ⟨g, 0, none⟩ (.int .i64 X.f0)).setCell ⟨g, 1, none⟩ (.int .i64 X.f1)).setCell ⟨g, 2, none⟩ (.int .i64 X.f2)).setCell ⟨g, 3, none⟩ (.int .i64 X.f3)).setCell ⟨g, 4, none⟩ (.int .i64 X.f4)).setCell ⟨g, 5, none⟩ (.int .i64 X.f5)) := by
  generalize a.eval = ρ at e10 e45 ⊢
  unfold execOp
  rw [hop]
  simp [e10, e45, z0, z1, z2, z3, z4, z5, zf, go_sem]
 unfold Oper.wp
 rw [hr]
 exact hK undef _ (hW.store0 hs rfl g1 undef)
theorem SO10.s12 (X : SO10) (ok : SO10Ok X) {Q : PQ} : SO10.St X Q 12 := by
 intro γ listed a w o hF hC hW h1 ho h2
 obtain ⟨hd, hop, hg⟩ := fieldsL SO10.isL (i := 12) rfl ho
 have e11 : a.eval (.tmp 11) = γ 1 := knownH hF ho h2 (SO10.ini ok) ok.sz (by kernel_rfl)
 have e51 : a.eval (.tmp 51) = .agg #[.int .i64 X.l0, .int .i64 X.l1, .int .i64 X.l2, .int .i64 X.l3, .int .i64 X.l4, .int .i64 X.l5] := knownH hF ho h2 (SO10.ini ok) ok.sz (by kernel_rfl)
 have hs : upOf listed SO10.acts 1 = true := up_yes hC ho h2 (j := 10) rfl [10] (by kernel_rfl) (by decide)
 have hno : upOf listed SO10.acts 3 = false := up_self rfl (unl (hF.lt ho) h1)
 refine st_actH (k := 3) (ps := []) SO10.nodup rfl (by kernel_rfl) hF hC h1 ho h2 (Or.inl hd) hg ?_
 intro K hK
 have hl := hW.l1 hs
 rw [hno] at hl
 obtain ⟨g, g1, g2, g3, zf, zc⟩ := hl
 rw [g1] at e11
 have z0 : w.cell? ⟨g, 0, none⟩ = some (.int .i64 0) := zc 0 (by decide)
 have z1 : w.cell? ⟨g, 1, none⟩ = some (.int .i64 0) := zc 1 (by decide)
 have z2 : w.cell? ⟨g, 2, none⟩ = some (.int .i64 0) := zc 2 (by decide)
 have z3 : w.cell? ⟨g, 3, none⟩ = some (.int .i64 0) := zc 3 (by decide)
 have z4 : w.cell? ⟨g, 4, none⟩ = some (.int .i64 0) := zc 4 (by decide)
 have z5 : w.cell? ⟨g, 5, none⟩ = some (.int .i64 0) := zc 5 (by decide)
 have hr : (execOp a.eval o).run Tryz.prog w = .ok .skip ((((((w.setCell ⟨g, 0, none⟩ (.int .i64 X.l0)).setCell ⟨g, 1, none⟩ (.int .i64 X.l1)).setCell ⟨g, 2, none⟩ (.int .i64 X.l2)).setCell ⟨g, 3, none⟩ (.int .i64 X.l3)).setCell ⟨g, 4, none⟩ (.int .i64 X.l4)).setCell ⟨g, 5, none⟩ (.int .i64 X.l5)) := by
  generalize a.eval = ρ at e11 e51 ⊢
  unfold execOp
  rw [hop]
  simp [e11, e51, z0, z1, z2, z3, z4, z5, zf, go_sem]
 unfold Oper.wp
 rw [hr]
 exact hK undef _ (hW.store1 hs rfl g1 undef)
theorem SO10.rest (X : SO10) (ok : SO10Ok X) {Q : PQ} : ∀ i ∈ [9, 10, 11, 12], SO10.St X Q i := by
 simp only [List.forall_mem_cons]
 exact ⟨SO10.s9 X ok,
  SO10.s10 X ok,
  SO10.s11 X ok,
  SO10.s12 X ok, List.forall_mem_nil _⟩
theorem SO10.size : (opsOf 10 Tryz.f43).size = 13 := by kernel_rfl
theorem SO10.steps (X : SO10) (ok : SO10Ok X) {Q : PQ} (i : Nat) (hi : i < (opsOf 10 Tryz.f43).size) : SO10.St X Q i := by
 rw [SO10.size] at hi
 rcases (by decide : ∀ i, i < 13 → i ∈ [0, 1, 2, 3, 4, 5, 6, 7, 8] ∨ i ∈ [9, 10, 11, 12]) i hi with h | h
 · exact SO10.plain X ok i h
 · exact SO10.rest X ok i h
theorem SO10.run (X : SO10) (ok : SO10Ok X) {Q : PQ} (w : World) (h0 : Kp X.W w.drew) (hend : ∀ w' g0 g1, Kp X.W w' → X.W.heap.size ≤ g0 → X.W.heap.size ≤ g1 → g0 ≠ g1 → w'.cell? ⟨g0, 0, none⟩ = some (.int .i64 X.f0) → w'.cell? ⟨g0, 1, none⟩ = some (.int .i64 X.f1) → w'.cell? ⟨g0, 2, none⟩ = some (.int .i64 X.f2) → w'.cell? ⟨g0, 3, none⟩ = some (.int .i64 X.f3) → w'.cell? ⟨g0, 4, none⟩ = some (.int .i64 X.f4) → w'.cell? ⟨g0, 5, none⟩ = some (.int .i64 X.f5) → w'.cell? ⟨g1, 0, none⟩ = some (.int .i64 X.l0) → w'.cell? ⟨g1, 1, none⟩ = some (.int .i64 X.l1) → w'.cell? ⟨g1, 2, none⟩ = some (.int .i64 X.l2) → w'.cell? ⟨g1, 3, none⟩ = some (.int .i64 X.l3) → w'.cell? ⟨g1, 4, none⟩ = some (.int .i64 X.l4) → w'.cell? ⟨g1, 5, none⟩ = some (.int .i64 X.l5) → Q .normal (((((((((((X.a0.put (some 43) (.slice (some ⟨X.g, 0, none⟩) (X.m + 1) X.c)).put (some 44) (.pointer (some ⟨X.g, 0, none⟩))).put (some 45) (.agg #[.int .i64 X.f0, .int .i64 X.f1, .int .i64 X.f2, .int .i64 X.f3, .int .i64 X.f4, .int .i64 X.f5])).put (some 46) (.slice (some ⟨X.g, 0, none⟩) (X.m + 1) X.c)).put (some 47) (.slice (some ⟨X.g, 0, none⟩) (X.m + 1) X.c)).put (some 48) (.int .i64 ((X.m + 1 : Nat) : Int))).put (some 49) (.int .i64 (X.m : Int))).put (some 50) (.pointer (some ⟨X.g, X.m * 6, none⟩))).put (some 51) (.agg #[.int .i64 X.l0, .int .i64 X.l1, .int .i64 X.l2, .int .i64 X.l3, .int .i64 X.l4, .int .i64 X.l5])).put (some 10) (.pointer (some ⟨g0, 0, none⟩))).put (some 11) (.pointer (some ⟨g1, 0, none⟩))) w') : (Code.region 10 (opsOf 10 Tryz.f43) true).wp Tryz.prog Q X.a0 w := by
  refine reg_actH (acts := SO10.acts) (av := SO10.av) (ext := SO10.ext) (val0 := X.val0) (Wd := X.Wd) (by kernel_rfl) (by kernel_rfl) (by rw [SO10.size]; decide) (fun i hi => SO10.steps X ok i hi) (fun _ => undef) (TwoWd.start _ _ _ _ _ _ h0) ?_
  intro S γ w' hS h
  obtain ⟨g0, g1, q0, q1, kp, ge0, ge1, gne, qa, qb⟩ := h.fin hS
  refine end_at (hend w' g0 g1 kp ge0 ge1 gne (qa 0 (by decide)) (qa 1 (by decide)) (qa 2 (by decide)) (qa 3 (by decide)) (qa 4 (by decide)) (qa 5 (by decide)) (qb 0 (by decide)) (qb 1 (by decide)) (qb 2 (by decide)) (qb 3 (by decide)) (qb 4 (by decide)) (qb 5 (by decide))) ?_
  rw [← q0, ← q1]
  kernel_rfl
structure SO11 where
 f0 : Int
 f1 : Int
 f2 : Int
 f3 : Int
 f4 : Int
 f5 : Int
 l0 : Int
 l1 : Int
 l2 : Int
 l3 : Int
 l4 : Int
 l5 : Int
 g0 : Nat
 g1 : Nat
 h : Int
 fn : FuncId
 sv : Value
 P1 : World → Value → Prop
 P2 : World → Value → Value → Prop
 R : World → Value → Prop
 W : World
 a0 : Act
structure SO11Ok (X : SO11) : Prop where
 f0_ : X.W.cell? ⟨X.g0, 0, none⟩ = some (.int .i64 X.f0)
 f1_ : X.W.cell? ⟨X.g0, 1, none⟩ = some (.int .i64 X.f1)
 f2_ : X.W.cell? ⟨X.g0, 2, none⟩ = some (.int .i64 X.f2)
 f3_ : X.W.cell? ⟨X.g0, 3, none⟩ = some (.int .i64 X.f3)
 f4_ : X.W.cell? ⟨X.g0, 4, none⟩ = some (.int .i64 X.f4)
 f5_ : X.W.cell? ⟨X.g0, 5, none⟩ = some (.int .i64 X.f5)
 l0_ : X.W.cell? ⟨X.g1, 0, none⟩ = some (.int .i64 X.l0)
 l1_ : X.W.cell? ⟨X.g1, 1, none⟩ = some (.int .i64 X.l1)
 l2_ : X.W.cell? ⟨X.g1, 2, none⟩ = some (.int .i64 X.l2)
 l3_ : X.W.cell? ⟨X.g1, 3, none⟩ = some (.int .i64 X.l3)
 l4_ : X.W.cell? ⟨X.g1, 4, none⟩ = some (.int .i64 X.l4)
 l5_ : X.W.cell? ⟨X.g1, 5, none⟩ = some (.int .i64 X.l5)
 wf4 : wid X.f4
 wf5 : wid X.f5
 wl4 : wid X.l4
 fx : ∀ args w, Sem.run Tryz.prog (callFunc X.fn args) w = .ok (.enter X.fn args) w
 s1 : ∃ a n c, X.sv = .slice a n c
 h1 : ∀ w, Kp X.W w → Calls Tryz.prog X.fn #[.agg #[.int .i64 X.f0, .int .i64 X.f1, .int .i64 X.f4, .int .i64 X.f5, .int .i64 (-X.f5), .int .i64 X.f4, .int .i64 X.h]] w fun e w' => ∃ v, e = .returned v ∧ X.P1 w' v
 n1 : ∀ w v, X.P1 w v → Nw X.W w ∧ ∃ a n c, v = .slice a n c
 k1 : ∀ w w' v, X.P1 w v → Kp w w' → X.P1 w' v
 h2 : ∀ w v, X.P1 w v → Calls Tryz.prog X.fn #[.agg #[.int .i64 X.l2, .int .i64 X.l3, .int .i64 X.l4, .int .i64 X.l5, .int .i64 X.l5, .int .i64 (-X.l4), .int .i64 X.h]] w fun e w' => ∃ v', e = .returned v' ∧ X.P2 w' v v'
 n2 : ∀ w v v', X.P2 w v v' → (∃ a n c, v = .slice a n c) ∧ ∃ a n c, v' = .slice a n c
 h3 : ∀ w v v', X.P2 w v v' → Calls Tryz.prog 71 #[.slice (some ⟨w.heap.size, 0, none⟩) 3 3] (w.alloc (.cells #[X.sv, v, v'] 29)) fun e w' => ∃ u, e = .returned u ∧ X.R w' u
 e6 : X.a0.eval (.tmp 6) = .int .i64 (X.h)
 e8 : X.a0.eval (.tmp 8) = X.sv
 e9 : X.a0.eval (.tmp 9) = .func (.func X.fn) #[] #[]
 e10 : X.a0.eval (.tmp 10) = .pointer (some ⟨X.g0, 0, none⟩)
 e11 : X.a0.eval (.tmp 11) = .pointer (some ⟨X.g1, 0, none⟩)
 sz : X.a0.tmps.size = 77
def SO11.val0 (X : SO11) : Nat → Value
 | 6 => .int .i64 (X.h)
 | 8 => X.sv
 | 9 => .func (.func X.fn) #[] #[]
 | 10 => .pointer (some ⟨X.g0, 0, none⟩)
 | 11 => .pointer (some ⟨X.g1, 0, none⟩)
 | 52 => X.sv
 | 53 => .func (.func X.fn) #[] #[]
 | 54 => .pointer (some ⟨X.g0, 0, none⟩)
 | 55 => .agg #[.int .i64 X.f0, .int .i64 X.f1]
 | 56 => .pointer (some ⟨X.g0, 4, none⟩)
 | 57 => .agg #[.int .i64 X.f4, .int .i64 X.f5]
 | 58 => .agg #[.int .i64 0, .int .i64 0]
 | 59 => .agg #[.int .i64 X.f0, .int .i64 X.f1, .int .i64 X.f2, .int .i64 X.f3, .int .i64 X.f4, .int .i64 X.f5]
 | 62 => .int .i64 (X.h)
 | 65 => .func (.func X.fn) #[] #[]
 | 66 => .pointer (some ⟨X.g1, 2, none⟩)
 | 67 => .agg #[.int .i64 X.l2, .int .i64 X.l3]
 | 68 => .pointer (some ⟨X.g1, 4, none⟩)
 | 69 => .agg #[.int .i64 X.l4, .int .i64 X.l5]
 | 70 => .agg #[.int .i64 X.l0, .int .i64 X.l1, .int .i64 X.l2, .int .i64 X.l3, .int .i64 X.l4, .int .i64 X.l5]
 | 72 => .int .i64 (X.h)
 | _ => undef
def SO11.av : Nat → Option Nat
 | 60 => some 0
 | 61 => some 1
 | 63 => some 2
 | 64 => some 3
 | 71 => some 4
 | 73 => some 5
 | 74 => some 6
 | 75 => some 7
 | 76 => some 8
 | 4 => some 9
 | _ => none
def SO11.acts : List Nat := [8, 9, 11, 12, 19, 21, 22, 23, 24, 25]
def SO11.Wd (X : SO11) : Nat → (Nat → Value) → World → Prop
  | 0, _, w => Kp X.W w
  | 1, γ, w => γ 0 = .agg #[.int .i64 X.f5, .int .i64 (-X.f4)] ∧ Kp X.W w
  | 2, γ, w => γ 1 = .agg #[.int .i64 (-X.f5), .int .i64 X.f4] ∧ Kp X.W w
  | 3, γ, w => γ 2 = .agg #[.int .i64 X.f0, .int .i64 X.f1, .int .i64 X.f4, .int .i64 X.f5, .int .i64 (-X.f5), .int .i64 X.f4, .int .i64 X.h] ∧ Kp X.W w
  | 4, γ, w => X.P1 w (γ 3)
  | 5, γ, w => γ 4 = .agg #[.int .i64 X.l5, .int .i64 (-X.l4)] ∧ X.P1 w (γ 3)
  | 6, γ, w => γ 5 = .agg #[.int .i64 X.l2, .int .i64 X.l3, .int .i64 X.l4, .int .i64 X.l5, .int .i64 X.l5, .int .i64 (-X.l4), .int .i64 X.h] ∧ X.P1 w (γ 3)
  | 7, γ, w => X.P2 w (γ 3) (γ 6)
  | 8, γ, w => ∃ w1, X.P2 w1 (γ 3) (γ 6) ∧ γ 7 = .slice (some ⟨w1.heap.size, 0, none⟩) 3 3 ∧ w = w1.alloc (.cells #[X.sv, γ 3, γ 6] 29)
  | 9, γ, w => X.R w (γ 8)
  | _, γ, w => X.R w (γ 9)
theorem SO11.nw {X : SO11} (ok : ∀ w v, X.P1 w v → Nw X.W w) : ∀ {n : Nat} {γ : Nat → Value} {w : World}, n ≤ 6 → X.Wd n γ w → Nw X.W w
  | 0, _, _, _, h => Kp.nw h
  | 1, _, _, _, ⟨_, h⟩ => Kp.nw h
  | 2, _, _, _, ⟨_, h⟩ => Kp.nw h
  | 3, _, _, _, ⟨_, h⟩ => Kp.nw h
  | 4, _, _, _, h => ok _ _ h
  | 5, _, _, _, ⟨_, h⟩ => ok _ _ h
  | 6, _, _, _, ⟨_, h⟩ => ok _ _ h
  | _ + 7, _, _, h, _ => absurd h (by omega)
theorem SO11.chain : chainG (opsOf 11 Tryz.f43) SO11.acts = true := by kernel_rfl
theorem SO11.nodup : SO11.acts.Nodup := by decide
def SO11.L : List (Option Nat × Op × Option (Nat × Bool)) := [
 (some 52, .move (.tmp 8), none),
 (some 53, .move (.tmp 9), none),
 (some 54, .fieldAddr 112 (.tmp 10) 0, none),
 (some 55, .load 34 (.tmp 54), none),
 (some 56, .fieldAddr 112 (.tmp 10) 2, none),
 (some 57, .load 34 (.tmp 56), none),
 (some 58, .build 34 #[], none),
 (some 59, .load 112 (.tmp 10), none),
 (some 60, .call { callee := .value (.func 77), args := #[(.tmp 59)], argTypes := #[112] }, none),
 (some 61, .call { callee := .value (.func 76), args := #[(.tmp 58), (.tmp 60)], argTypes := #[34, 34] }, none),
 (some 62, .move (.tmp 6), none),
 (some 63, .build 115 #[(0, (.tmp 55)), (1, (.tmp 57)), (2, (.tmp 61)), (3, (.tmp 62))], none),
 (some 64, .call { callee := .value (.tmp 53), args := #[(.tmp 63)], argTypes := #[115] }, none),
 (some 65, .move (.tmp 9), none),
 (some 66, .fieldAddr 112 (.tmp 11) 1, none),
 (some 67, .load 34 (.tmp 66), none),
 (some 68, .fieldAddr 112 (.tmp 11) 2, none),
 (some 69, .load 34 (.tmp 68), none),
 (some 70, .load 112 (.tmp 11), none),
 (some 71, .call { callee := .value (.func 77), args := #[(.tmp 70)], argTypes := #[112] }, none),
 (some 72, .move (.tmp 6), none),
 (some 73, .build 115 #[(0, (.tmp 67)), (1, (.tmp 69)), (2, (.tmp 71)), (3, (.tmp 72))], none),
 (some 74, .call { callee := .value (.tmp 65), args := #[(.tmp 73)], argTypes := #[115] }, none),
 (some 75, .buildSlice 126 3 #[(0, (.tmp 52)), (1, (.tmp 64)), (2, (.tmp 74))], none),
 (some 76, .call { callee := .value (.func 71), args := #[(.tmp 75)], argTypes := #[126] }, none),
 (some 4, .assign (.tmp 76), none)]
theorem SO11.isL : (opsOf 11 Tryz.f43).toList.map tri = SO11.L := by kernel_rfl
theorem SO11.ini {X : SO11} (ok : SO11Ok X) : ∀ n ∈ [6, 8, 9, 10, 11], X.a0.eval (.tmp n) = X.val0 n := by
 simp only [List.forall_mem_cons]
 exact ⟨ok.e6, ok.e8, ok.e9, ok.e10, ok.e11, List.forall_mem_nil _⟩
abbrev SO11.St (X : SO11) (Q : PQ) (i : Nat) : Prop := StepG (opsOf 11 Tryz.f43) SO11.acts SO11.av X.val0 X.Wd X.a0 Q i
theorem SO11.plain (X : SO11) (ok : SO11Ok X) {Q : PQ} : ∀ i ∈ [0, 1, 2, 4, 6, 10, 13, 14, 16, 20], SO11.St X Q i := by
 simp only [List.forall_mem_cons]
 refine ⟨?_, ?_, ?_, ?_, ?_, ?_, ?_, ?_, ?_, ?_, List.forall_mem_nil _⟩
 all_goals
  refine st_plain SO11.isL (SO11.ini ok) ok.sz rfl (by kernel_rfl) ?_
  intro γ w n o hW hop
  unfold execOp
  rw [hop]
  simp [envR, valG, SO11.av, SO11.val0, go_sem]
theorem SO11.s3 (X : SO11) (ok : SO11Ok X) {Q : PQ} : SO11.St X Q 3 := by
 intro γ listed a w o hF hC hW h1 ho h2
 obtain ⟨hd, hop, hg⟩ := fieldsL SO11.isL (i := 3) rfl ho
 have e54 : a.eval (.tmp 54) = .pointer (some ⟨X.g0, 0, none⟩) := known hF ho h2 (SO11.ini ok) ok.sz (by kernel_rfl)
 have hph := phase_leG (acts := SO11.acts) (m := 2) (x := 11) hC (unl (hF.lt ho) h1) rfl [3] (by kernel_rfl) (by decide)
 have hWW := hW
 generalize phase listed SO11.acts = n at hph hWW
 have hk : Nw X.W w := SO11.nw (fun w v h => (ok.n1 w v h).1) (by omega) hWW
 have hc0 := ((bcell hk).1 _ _ (World.block_lt_of_cell? X.W ⟨X.g0, 0, none⟩ ok.f0_)).trans ok.f0_
 have hc1 := ((bcell hk).1 _ _ (World.block_lt_of_cell? X.W ⟨X.g0, 1, none⟩ ok.f1_)).trans ok.f1_
 refine st_pureG hF hC hW ho h2 (by decide) hd hg rfl ?_
 show _ = Result.ok (Next.value (.agg #[.int .i64 X.f0, .int .i64 X.f1])) w
 generalize a.eval = ρ at e54 ⊢
 unfold execOp
 rw [hop]
 simp [e54, hc0, hc1, go_sem]
theorem SO11.s5 (X : SO11) (ok : SO11Ok X) {Q : PQ} : SO11.St X Q 5 := by
 intro γ listed a w o hF hC hW h1 ho h2
 obtain ⟨hd, hop, hg⟩ := fieldsL SO11.isL (i := 5) rfl ho
 have e56 : a.eval (.tmp 56) = .pointer (some ⟨X.g0, 4, none⟩) := known hF ho h2 (SO11.ini ok) ok.sz (by kernel_rfl)
 have hph := phase_leG (acts := SO11.acts) (m := 2) (x := 11) hC (unl (hF.lt ho) h1) rfl [5] (by kernel_rfl) (by decide)
 have hWW := hW
 generalize phase listed SO11.acts = n at hph hWW
 have hk : Nw X.W w := SO11.nw (fun w v h => (ok.n1 w v h).1) (by omega) hWW
 have hc0 := ((bcell hk).1 _ _ (World.block_lt_of_cell? X.W ⟨X.g0, 4, none⟩ ok.f4_)).trans ok.f4_
 have hc1 := ((bcell hk).1 _ _ (World.block_lt_of_cell? X.W ⟨X.g0, 5, none⟩ ok.f5_)).trans ok.f5_
 refine st_pureG hF hC hW ho h2 (by decide) hd hg rfl ?_
 show _ = Result.ok (Next.value (.agg #[.int .i64 X.f4, .int .i64 X.f5])) w
 generalize a.eval = ρ at e56 ⊢
 unfold execOp
 rw [hop]
 simp [e56, hc0, hc1, go_sem]
theorem SO11.s7 (X : SO11) (ok : SO11Ok X) {Q : PQ} : SO11.St X Q 7 := by
 intro γ listed a w o hF hC hW h1 ho h2
 obtain ⟨hd, hop, hg⟩ := fieldsL SO11.isL (i := 7) rfl ho
 have e10 : a.eval (.tmp 10) = .pointer (some ⟨X.g0, 0, none⟩) := known hF ho h2 (SO11.ini ok) ok.sz (by kernel_rfl)
 have hph := phase_leG (acts := SO11.acts) (m := 0) (x := 8) hC (unl (hF.lt ho) h1) rfl [7] (by kernel_rfl) (by decide)
 have hWW := hW
 generalize phase listed SO11.acts = n at hph hWW
 have hk : Nw X.W w := SO11.nw (fun w v h => (ok.n1 w v h).1) (by omega) hWW
 have hc0 := ((bcell hk).1 _ _ (World.block_lt_of_cell? X.W ⟨X.g0, 0, none⟩ ok.f0_)).trans ok.f0_
 have hc1 := ((bcell hk).1 _ _ (World.block_lt_of_cell? X.W ⟨X.g0, 1, none⟩ ok.f1_)).trans ok.f1_
 have hc2 := ((bcell hk).1 _ _ (World.block_lt_of_cell? X.W ⟨X.g0, 2, none⟩ ok.f2_)).trans ok.f2_
 have hc3 := ((bcell hk).1 _ _ (World.block_lt_of_cell? X.W ⟨X.g0, 3, none⟩ ok.f3_)).trans ok.f3_
 have hc4 := ((bcell hk).1 _ _ (World.block_lt_of_cell? X.W ⟨X.g0, 4, none⟩ ok.f4_)).trans ok.f4_
 have hc5 := ((bcell hk).1 _ _ (World.block_lt_of_cell? X.W ⟨X.g0, 5, none⟩ ok.f5_)).trans ok.f5_
 refine st_pureG hF hC hW ho h2 (by decide) hd hg rfl ?_
 show _ = Result.ok (Next.value (.agg #[.int .i64 X.f0, .int .i64 X.f1, .int .i64 X.f2, .int .i64 X.f3, .int .i64 X.f4, .int .i64 X.f5])) w
 generalize a.eval = ρ at e10 ⊢
 unfold execOp
 rw [hop]
 simp [e10, hc0, hc1, hc2, hc3, hc4, hc5, go_sem]
theorem SO11.s8 (X : SO11) (ok : SO11Ok X) {Q : PQ} : SO11.St X Q 8 := by
 intro γ listed a w o hF hC hW h1 ho h2
 obtain ⟨hd, hop, hg⟩ := fieldsL SO11.isL (i := 8) rfl ho
 have e59 : a.eval (.tmp 59) = .agg #[.int .i64 X.f0, .int .i64 X.f1, .int .i64 X.f2, .int .i64 X.f3, .int .i64 X.f4, .int .i64 X.f5] := known hF ho h2 (SO11.ini ok) ok.sz (by kernel_rfl)
 have ef : a.eval (.func 77) = .func (.func 77) #[] #[] := rfl
 have hu := unl (hF.lt ho) h1
 refine st_actG (k := 0) SO11.chain SO11.nodup rfl hF hC hW h1 ho h2 (Or.inr ⟨60, hd, rfl⟩) (injG (by kernel_rfl) hu) hg ?_
 intro hW0 K hK
 have hr : (execOp a.eval o).run Tryz.prog w = .ok (.enter 77 #[.agg #[.int .i64 X.f0, .int .i64 X.f1, .int .i64 X.f2, .int .i64 X.f3, .int .i64 X.f4, .int .i64 X.f5]]) w := by
  generalize a.eval = ρ at e59 ef ⊢
  unfold execOp
  rw [hop]
  simp [e59, ef, go_sem]
 unfold Oper.wp
 rw [hr]
 refine Calls.mono (ionward w _ _ _ _ _ _ ok.wf4) ?_
 rintro e w' ⟨rfl, h⟩
 exact hK _ _ ⟨rfl, Kp.trans hW0 h⟩
theorem SO11.s9 (X : SO11) (ok : SO11Ok X) {Q : PQ} : SO11.St X Q 9 := by
 intro γ listed a w o hF hC hW h1 ho h2
 obtain ⟨hd, hop, hg⟩ := fieldsL SO11.isL (i := 9) rfl ho
 have e58 : a.eval (.tmp 58) = .agg #[.int .i64 0, .int .i64 0] := known hF ho h2 (SO11.ini ok) ok.sz (by kernel_rfl)
 have e60 : a.eval (.tmp 60) = γ 0 := known hF ho h2 (SO11.ini ok) ok.sz (by kernel_rfl)
 have ef : a.eval (.func 76) = .func (.func 76) #[] #[] := rfl
 have hu := unl (hF.lt ho) h1
 refine st_actG (k := 1) SO11.chain SO11.nodup rfl hF hC hW h1 ho h2 (Or.inr ⟨61, hd, rfl⟩) (injG (by kernel_rfl) hu) hg ?_
 intro hW0 K hK
 obtain ⟨g0, hk⟩ := hW0
 rw [g0] at e60
 have hr : (execOp a.eval o).run Tryz.prog w = .ok (.enter 76 #[.agg #[.int .i64 0, .int .i64 0], .agg #[.int .i64 X.f5, .int .i64 (-X.f4)]]) w := by
  generalize a.eval = ρ at e58 e60 ef ⊢
  unfold execOp
  rw [hop]
  simp [e58, e60, ef, go_sem]
 unfold Oper.wp
 rw [hr]
 have w5 := ok.wf5
 have w4 := ok.wf4
 refine Calls.mono (imin2 w _ _ _ _ (by unfold wid; omega) (by unfold wid; omega) w5 (by unfold wid at w4 ⊢; omega)) ?_
 rintro e w' ⟨rfl, h⟩
 exact hK _ _ ⟨by rw [Int.zero_sub, Int.zero_sub, Int.neg_neg]; rfl, Kp.trans hk h⟩
theorem SO11.s11 (X : SO11) (ok : SO11Ok X) {Q : PQ} : SO11.St X Q 11 := by
 intro γ listed a w o hF hC hW h1 ho h2
 obtain ⟨hd, hop, hg⟩ := fieldsL SO11.isL (i := 11) rfl ho
 have e55 : a.eval (.tmp 55) = .agg #[.int .i64 X.f0, .int .i64 X.f1] := known hF ho h2 (SO11.ini ok) ok.sz (by kernel_rfl)
 have e57 : a.eval (.tmp 57) = .agg #[.int .i64 X.f4, .int .i64 X.f5] := known hF ho h2 (SO11.ini ok) ok.sz (by kernel_rfl)
 have e61 : a.eval (.tmp 61) = γ 1 := known hF ho h2 (SO11.ini ok) ok.sz (by kernel_rfl)
 have e62 : a.eval (.tmp 62) = .int .i64 (X.h) := known hF ho h2 (SO11.ini ok) ok.sz (by kernel_rfl)
 have hu := unl (hF.lt ho) h1
 refine st_actG (k := 2) SO11.chain SO11.nodup rfl hF hC hW h1 ho h2 (Or.inr ⟨63, hd, rfl⟩) (injG (by kernel_rfl) hu) hg ?_
 intro hW0 K hK
 obtain ⟨g1, hk⟩ := hW0
 rw [g1] at e61
 have hr : (execOp a.eval o).run Tryz.prog w = .ok (.value (.agg #[.int .i64 X.f0, .int .i64 X.f1, .int .i64 X.f4, .int .i64 X.f5, .int .i64 (-X.f5), .int .i64 X.f4, .int .i64 X.h])) w := by
  generalize a.eval = ρ at e55 e57 e61 e62 ⊢
  unfold execOp
  rw [hop]
  simp [e55, e57, e61, e62, go_sem]
 unfold Oper.wp
 rw [hr]
 exact hK _ _ ⟨rfl, hk⟩
theorem SO11.s12 (X : SO11) (ok : SO11Ok X) {Q : PQ} : SO11.St X Q 12 := by
 intro γ listed a w o hF hC hW h1 ho h2
 obtain ⟨hd, hop, hg⟩ := fieldsL SO11.isL (i := 12) rfl ho
 have e53 : a.eval (.tmp 53) = .func (.func X.fn) #[] #[] := known hF ho h2 (SO11.ini ok) ok.sz (by kernel_rfl)
 have e63 : a.eval (.tmp 63) = γ 2 := known hF ho h2 (SO11.ini ok) ok.sz (by kernel_rfl)
 have hu := unl (hF.lt ho) h1
 refine st_actG (k := 3) SO11.chain SO11.nodup rfl hF hC hW h1 ho h2 (Or.inr ⟨64, hd, rfl⟩) (injG (by kernel_rfl) hu) hg ?_
 intro hW0 K hK
 obtain ⟨g1, hk⟩ := hW0
 rw [g1] at e63
 have hr : (execOp a.eval o).run Tryz.prog w = .ok (.enter X.fn #[.agg #[.int .i64 X.f0, .int .i64 X.f1, .int .i64 X.f4, .int .i64 X.f5, .int .i64 (-X.f5), .int .i64 X.f4, .int .i64 X.h]]) w := by
  have fx := ok.fx
  generalize a.eval = ρ at e53 e63 ⊢
  unfold execOp
  rw [hop]
  simp [e53, e63, fx, go_sem]
 unfold Oper.wp
 rw [hr]
 refine Calls.mono (ok.h1 w hk) ?_
 rintro e w' ⟨v, rfl, h⟩
 exact hK _ _ h
theorem SO11.s15 (X : SO11) (ok : SO11Ok X) {Q : PQ} : SO11.St X Q 15 := by
 intro γ listed a w o hF hC hW h1 ho h2
 obtain ⟨hd, hop, hg⟩ := fieldsL SO11.isL (i := 15) rfl ho
 have e66 : a.eval (.tmp 66) = .pointer (some ⟨X.g1, 2, none⟩) := known hF ho h2 (SO11.ini ok) ok.sz (by kernel_rfl)
 have hph := phase_leG (acts := SO11.acts) (m := 5) (x := 21) hC (unl (hF.lt ho) h1) rfl [15] (by kernel_rfl) (by decide)
 have hWW := hW
 generalize phase listed SO11.acts = n at hph hWW
 have hk : Nw X.W w := SO11.nw (fun w v h => (ok.n1 w v h).1) (by omega) hWW
 have hc0 := ((bcell hk).1 _ _ (World.block_lt_of_cell? X.W ⟨X.g1, 2, none⟩ ok.l2_)).trans ok.l2_
 have hc1 := ((bcell hk).1 _ _ (World.block_lt_of_cell? X.W ⟨X.g1, 3, none⟩ ok.l3_)).trans ok.l3_
 refine st_pureG hF hC hW ho h2 (by decide) hd hg rfl ?_
 show _ = Result.ok (Next.value (.agg #[.int .i64 X.l2, .int .i64 X.l3])) w
 generalize a.eval = ρ at e66 ⊢
 unfold execOp
 rw [hop]
 simp [e66, hc0, hc1, go_sem]
theorem SO11.s17 (X : SO11) (ok : SO11Ok X) {Q : PQ} : SO11.St X Q 17 := by
 intro γ listed a w o hF hC hW h1 ho h2
 obtain ⟨hd, hop, hg⟩ := fieldsL SO11.isL (i := 17) rfl ho
 have e68 : a.eval (.tmp 68) = .pointer (some ⟨X.g1, 4, none⟩) := known hF ho h2 (SO11.ini ok) ok.sz (by kernel_rfl)
 have hph := phase_leG (acts := SO11.acts) (m := 5) (x := 21) hC (unl (hF.lt ho) h1) rfl [17] (by kernel_rfl) (by decide)
 have hWW := hW
 generalize phase listed SO11.acts = n at hph hWW
 have hk : Nw X.W w := SO11.nw (fun w v h => (ok.n1 w v h).1) (by omega) hWW
 have hc0 := ((bcell hk).1 _ _ (World.block_lt_of_cell? X.W ⟨X.g1, 4, none⟩ ok.l4_)).trans ok.l4_
 have hc1 := ((bcell hk).1 _ _ (World.block_lt_of_cell? X.W ⟨X.g1, 5, none⟩ ok.l5_)).trans ok.l5_
 refine st_pureG hF hC hW ho h2 (by decide) hd hg rfl ?_
 show _ = Result.ok (Next.value (.agg #[.int .i64 X.l4, .int .i64 X.l5])) w
 generalize a.eval = ρ at e68 ⊢
 unfold execOp
 rw [hop]
 simp [e68, hc0, hc1, go_sem]
theorem SO11.s18 (X : SO11) (ok : SO11Ok X) {Q : PQ} : SO11.St X Q 18 := by
 intro γ listed a w o hF hC hW h1 ho h2
 obtain ⟨hd, hop, hg⟩ := fieldsL SO11.isL (i := 18) rfl ho
 have e11 : a.eval (.tmp 11) = .pointer (some ⟨X.g1, 0, none⟩) := known hF ho h2 (SO11.ini ok) ok.sz (by kernel_rfl)
 have hph := phase_leG (acts := SO11.acts) (m := 4) (x := 19) hC (unl (hF.lt ho) h1) rfl [18] (by kernel_rfl) (by decide)
 have hWW := hW
 generalize phase listed SO11.acts = n at hph hWW
 have hk : Nw X.W w := SO11.nw (fun w v h => (ok.n1 w v h).1) (by omega) hWW
 have hc0 := ((bcell hk).1 _ _ (World.block_lt_of_cell? X.W ⟨X.g1, 0, none⟩ ok.l0_)).trans ok.l0_
 have hc1 := ((bcell hk).1 _ _ (World.block_lt_of_cell? X.W ⟨X.g1, 1, none⟩ ok.l1_)).trans ok.l1_
 have hc2 := ((bcell hk).1 _ _ (World.block_lt_of_cell? X.W ⟨X.g1, 2, none⟩ ok.l2_)).trans ok.l2_
 have hc3 := ((bcell hk).1 _ _ (World.block_lt_of_cell? X.W ⟨X.g1, 3, none⟩ ok.l3_)).trans ok.l3_
 have hc4 := ((bcell hk).1 _ _ (World.block_lt_of_cell? X.W ⟨X.g1, 4, none⟩ ok.l4_)).trans ok.l4_
 have hc5 := ((bcell hk).1 _ _ (World.block_lt_of_cell? X.W ⟨X.g1, 5, none⟩ ok.l5_)).trans ok.l5_
 refine st_pureG hF hC hW ho h2 (by decide) hd hg rfl ?_
 show _ = Result.ok (Next.value (.agg #[.int .i64 X.l0, .int .i64 X.l1, .int .i64 X.l2, .int .i64 X.l3, .int .i64 X.l4, .int .i64 X.l5])) w
 generalize a.eval = ρ at e11 ⊢
 unfold execOp
 rw [hop]
 simp [e11, hc0, hc1, hc2, hc3, hc4, hc5, go_sem]
theorem SO11.s19 (X : SO11) (ok : SO11Ok X) {Q : PQ} : SO11.St X Q 19 := by
 intro γ listed a w o hF hC hW h1 ho h2
 obtain ⟨hd, hop, hg⟩ := fieldsL SO11.isL (i := 19) rfl ho
 have e70 : a.eval (.tmp 70) = .agg #[.int .i64 X.l0, .int .i64 X.l1, .int .i64 X.l2, .int .i64 X.l3, .int .i64 X.l4, .int .i64 X.l5] := known hF ho h2 (SO11.ini ok) ok.sz (by kernel_rfl)
 have ef : a.eval (.func 77) = .func (.func 77) #[] #[] := rfl
 have hu := unl (hF.lt ho) h1
 refine st_actG (k := 4) SO11.chain SO11.nodup rfl hF hC hW h1 ho h2 (Or.inr ⟨71, hd, rfl⟩) (injG (by kernel_rfl) hu) hg ?_
 intro hW0 K hK
 have hr : (execOp a.eval o).run Tryz.prog w = .ok (.enter 77 #[.agg #[.int .i64 X.l0, .int .i64 X.l1, .int .i64 X.l2, .int .i64 X.l3, .int .i64 X.l4, .int .i64 X.l5]]) w := by
  generalize a.eval = ρ at e70 ef ⊢
  unfold execOp
  rw [hop]
  simp [e70, ef, go_sem]
 unfold Oper.wp
 rw [hr]
 refine Calls.mono (ionward w _ _ _ _ _ _ ok.wl4) ?_
 rintro e w' ⟨rfl, h⟩
 exact hK _ _ ⟨rfl, ok.k1 _ _ _ hW0 h⟩
theorem SO11.s21 (X : SO11) (ok : SO11Ok X) {Q : PQ} : SO11.St X Q 21 := by
 intro γ listed a w o hF hC hW h1 ho h2
 obtain ⟨hd, hop, hg⟩ := fieldsL SO11.isL (i := 21) rfl ho
 have e67 : a.eval (.tmp 67) = .agg #[.int .i64 X.l2, .int .i64 X.l3] := known hF ho h2 (SO11.ini ok) ok.sz (by kernel_rfl)
 have e69 : a.eval (.tmp 69) = .agg #[.int .i64 X.l4, .int .i64 X.l5] := known hF ho h2 (SO11.ini ok) ok.sz (by kernel_rfl)
 have e71 : a.eval (.tmp 71) = γ 4 := known hF ho h2 (SO11.ini ok) ok.sz (by kernel_rfl)
 have e72 : a.eval (.tmp 72) = .int .i64 (X.h) := known hF ho h2 (SO11.ini ok) ok.sz (by kernel_rfl)
 have hu := unl (hF.lt ho) h1
 refine st_actG (k := 5) SO11.chain SO11.nodup rfl hF hC hW h1 ho h2 (Or.inr ⟨73, hd, rfl⟩) (injG (by kernel_rfl) hu) hg ?_
 intro hW0 K hK
 obtain ⟨g1, hk⟩ := hW0
 rw [g1] at e71
 have hr : (execOp a.eval o).run Tryz.prog w = .ok (.value (.agg #[.int .i64 X.l2, .int .i64 X.l3, .int .i64 X.l4, .int .i64 X.l5, .int .i64 X.l5, .int .i64 (-X.l4), .int .i64 X.h])) w := by
  generalize a.eval = ρ at e67 e69 e71 e72 ⊢
  unfold execOp
  rw [hop]
  simp [e67, e69, e71, e72, go_sem]
 unfold Oper.wp
 rw [hr]
 exact hK _ _ ⟨rfl, hk⟩
theorem SO11.s22 (X : SO11) (ok : SO11Ok X) {Q : PQ} : SO11.St X Q 22 := by
 intro γ listed a w o hF hC hW h1 ho h2
 obtain ⟨hd, hop, hg⟩ := fieldsL SO11.isL (i := 22) rfl ho
 have e65 : a.eval (.tmp 65) = .func (.func X.fn) #[] #[] := known hF ho h2 (SO11.ini ok) ok.sz (by kernel_rfl)
 have e73 : a.eval (.tmp 73) = γ 5 := known hF ho h2 (SO11.ini ok) ok.sz (by kernel_rfl)
 have hu := unl (hF.lt ho) h1
 refine st_actG (k := 6) SO11.chain SO11.nodup rfl hF hC hW h1 ho h2 (Or.inr ⟨74, hd, rfl⟩) (injG (by kernel_rfl) hu) hg ?_
 intro hW0 K hK
 obtain ⟨g3, hP⟩ := hW0
 rw [g3] at e73
 have hr : (execOp a.eval o).run Tryz.prog w = .ok (.enter X.fn #[.agg #[.int .i64 X.l2, .int .i64 X.l3, .int .i64 X.l4, .int .i64 X.l5, .int .i64 X.l5, .int .i64 (-X.l4), .int .i64 X.h]]) w := by
  have fx := ok.fx
  generalize a.eval = ρ at e65 e73 ⊢
  unfold execOp
  rw [hop]
  simp [e65, e73, fx, go_sem]
 unfold Oper.wp
 rw [hr]
 refine Calls.mono (ok.h2 _ _ hP) ?_
 rintro e w' ⟨v, rfl, h⟩
 exact hK _ _ h
theorem SO11.s23 (X : SO11) (ok : SO11Ok X) {Q : PQ} : SO11.St X Q 23 := by
 intro γ listed a w o hF hC hW h1 ho h2
 obtain ⟨hd, hop, hg⟩ := fieldsL SO11.isL (i := 23) rfl ho
 have e52 : a.eval (.tmp 52) = X.sv := known hF ho h2 (SO11.ini ok) ok.sz (by kernel_rfl)
 have e64 : a.eval (.tmp 64) = γ 3 := known hF ho h2 (SO11.ini ok) ok.sz (by kernel_rfl)
 have e74 : a.eval (.tmp 74) = γ 6 := known hF ho h2 (SO11.ini ok) ok.sz (by kernel_rfl)
 have hu := unl (hF.lt ho) h1
 refine st_actG (k := 7) SO11.chain SO11.nodup rfl hF hC hW h1 ho h2 (Or.inr ⟨75, hd, rfl⟩) (injG (by kernel_rfl) hu) hg ?_
 intro hW0 K hK
 obtain ⟨⟨a1, n1, c1, q1⟩, ⟨a2, n2, c2, q2⟩⟩ := ok.n2 _ _ _ hW0
 obtain ⟨a3, n3, c3, q3⟩ := ok.s1
 have hr : (execOp a.eval o).run Tryz.prog w = .ok (.value (.slice (some ⟨w.heap.size, 0, none⟩) 3 3)) (w.alloc (.cells #[X.sv, γ 3, γ 6] 29)) := by
  rw [q3] at e52 ⊢
  rw [q1] at e64 ⊢
  rw [q2] at e74 ⊢
  generalize a.eval = ρ at e52 e64 e74 ⊢
  unfold execOp
  rw [hop]
  simp [e52, e64, e74, go_sem]
 unfold Oper.wp
 rw [hr]
 exact hK _ _ ⟨w, hW0, rfl, rfl⟩
theorem SO11.s24 (X : SO11) (ok : SO11Ok X) {Q : PQ} : SO11.St X Q 24 := by
 intro γ listed a w o hF hC hW h1 ho h2
 obtain ⟨hd, hop, hg⟩ := fieldsL SO11.isL (i := 24) rfl ho
 have e75 : a.eval (.tmp 75) = γ 7 := known hF ho h2 (SO11.ini ok) ok.sz (by kernel_rfl)
 have ef : a.eval (.func 71) = .func (.func 71) #[] #[] := rfl
 have hu := unl (hF.lt ho) h1
 refine st_actG (k := 8) SO11.chain SO11.nodup rfl hF hC hW h1 ho h2 (Or.inr ⟨76, hd, rfl⟩) (injG (by kernel_rfl) hu) hg ?_
 intro hW0 K hK
 obtain ⟨w1, hP, g3, hw⟩ := hW0
 rw [g3] at e75
 have hr : (execOp a.eval o).run Tryz.prog w = .ok (.enter 71 #[.slice (some ⟨w1.heap.size, 0, none⟩) 3 3]) w := by
  generalize a.eval = ρ at e75 ef ⊢
  unfold execOp
  rw [hop]
  simp [e75, ef, go_sem]
 unfold Oper.wp
 rw [hr]
 refine Calls.mono (by rw [hw]; exact ok.h3 _ _ _ hP) ?_
 rintro e w' ⟨v, rfl, h⟩
 exact hK _ _ h
theorem SO11.s25 (X : SO11) (ok : SO11Ok X) {Q : PQ} : SO11.St X Q 25 := by
 intro γ listed a w o hF hC hW h1 ho h2
 obtain ⟨hd, hop, hg⟩ := fieldsL SO11.isL (i := 25) rfl ho
 have e76 : a.eval (.tmp 76) = γ 8 := known hF ho h2 (SO11.ini ok) ok.sz (by kernel_rfl)
 have hu := unl (hF.lt ho) h1
 refine st_actG (k := 9) SO11.chain SO11.nodup rfl hF hC hW h1 ho h2 (Or.inr ⟨4, hd, rfl⟩) (injG (by kernel_rfl) hu) hg ?_
 intro hW0 K hK
 have hr : (execOp a.eval o).run Tryz.prog w = .ok (.value (γ 8)) w := by
  generalize a.eval = ρ at e76 ⊢
  unfold execOp
  rw [hop]
  simp [e76, go_sem]
 unfold Oper.wp
 rw [hr]
 exact hK _ _ hW0
theorem SO11.size : (opsOf 11 Tryz.f43).size = 26 := by kernel_rfl
theorem SO11.rest (X : SO11) (ok : SO11Ok X) {Q : PQ} : ∀ i ∈ [3, 5, 7, 8, 9, 11, 12, 15, 17, 18, 19, 21, 22, 23, 24, 25], SO11.St X Q i := by
 simp only [List.forall_mem_cons]
 exact ⟨SO11.s3 X ok,
  SO11.s5 X ok,
  SO11.s7 X ok,
  SO11.s8 X ok,
  SO11.s9 X ok,
  SO11.s11 X ok,
  SO11.s12 X ok,
  SO11.s15 X ok,
  SO11.s17 X ok,
  SO11.s18 X ok,
  SO11.s19 X ok,
  SO11.s21 X ok,
  SO11.s22 X ok,
  SO11.s23 X ok,
  SO11.s24 X ok,
  SO11.s25 X ok, List.forall_mem_nil _⟩
theorem SO11.steps (X : SO11) (ok : SO11Ok X) {Q : PQ} (i : Nat) (hi : i < (opsOf 11 Tryz.f43).size) : SO11.St X Q i := by
 rw [SO11.size] at hi
 rcases (by decide : ∀ i, i < 26 → i ∈ [0, 1, 2, 4, 6, 10, 13, 14, 16, 20] ∨ i ∈ [3, 5, 7, 8, 9, 11, 12, 15, 17, 18, 19, 21, 22, 23, 24, 25]) i hi with h | h
 · exact SO11.plain X ok i h
 · exact SO11.rest X ok i h
theorem SO11.run (X : SO11) (ok : SO11Ok X) {Q : PQ} (w : World) (h0 : X.Wd 0 (fun _ => undef) w.drew) (hend : ∀ (γ : Nat → Value) w', X.Wd 10 γ w' → Q .normal ((((((((((((((((((((((((((X.a0.put (some 52) (X.sv)).put (some 53) (.func (.func X.fn) #[] #[])).put (some 54) (.pointer (some ⟨X.g0, 0, none⟩))).put (some 55) (.agg #[.int .i64 X.f0, .int .i64 X.f1])).put (some 56) (.pointer (some ⟨X.g0, 4, none⟩))).put (some 57) (.agg #[.int .i64 X.f4, .int .i64 X.f5])).put (some 58) (.agg #[.int .i64 0, .int .i64 0])).put (some 59) (.agg #[.int .i64 X.f0, .int .i64 X.f1, .int .i64 X.f2, .int .i64 X.f3, .int .i64 X.f4, .int .i64 X.f5])).put (some 60) (γ 0)).put (some 61) (γ 1)).put (some 62) (.int .i64 (X.h))).put (some 63) (γ 2)).put (some 64) (γ 3)).put (some 65) (.func (.func X.fn) #[] #[])).put (some 66) (.pointer (some ⟨X.g1, 2, none⟩))).put (some 67) (.agg #[.int .i64 X.l2, .int .i64 X.l3])).put (some 68) (.pointer (some ⟨X.g1, 4, none⟩))).put (some 69) (.agg #[.int .i64 X.l4, .int .i64 X.l5])).put (some 70) (.agg #[.int .i64 X.l0, .int .i64 X.l1, .int .i64 X.l2, .int .i64 X.l3, .int .i64 X.l4, .int .i64 X.l5])).put (some 71) (γ 4)).put (some 72) (.int .i64 (X.h))).put (some 73) (γ 5)).put (some 74) (γ 6)).put (some 75) (γ 7)).put (some 76) (γ 8)).put (some 4) (γ 9)) w') : (Code.region 11 (opsOf 11 Tryz.f43) true).wp Tryz.prog Q X.a0 w := by
 refine reg_act (acts := SO11.acts) (av := SO11.av) (val0 := X.val0) (Wd := X.Wd) (by kernel_rfl) (by kernel_rfl) (by rw [SO11.size]; decide) (fun i hi => SO11.steps X ok i hi) _ h0 ?_
 intro γ w' h
 exact end_at (hend γ w' h) (by kernel_rfl)
structure Sg where
 f : Pnt
 t : Pnt
 s : Pnt
instance : Inhabited Sg := ⟨⟨(0, 0), (0, 0), (0, 0)⟩⟩
def sgC (x : Sg) : List Value := [.int .i64 x.f.1, .int .i64 x.f.2, .int .i64 x.t.1, .int .i64 x.t.2, .int .i64 x.s.1, .int .i64 x.s.2]
def sgAt (l : List Sg) (i : Nat) : Sg := l.getD i default
def flat6 (l : List Sg) : List Value := l.flatMap sgC
theorem flat6_append (l m : List Sg) : flat6 (l ++ m) = flat6 l ++ flat6 m := by simp [flat6]
theorem flat6_at (l : List Sg) : ∀ i j, i < l.length → j < 6 → (flat6 l)[i * 6 + j]? = (sgC (sgAt l i))[j]? := by
 induction l with
 | nil => intro i j h; cases h
 | cons x l ih =>
  intro i j hi hj
  show (sgC x ++ flat6 l)[i * 6 + j]? = _
  cases i with
  | zero =>
   rw [List.getElem?_append_left (by simp [sgC]; omega)]
   simp [sgAt]
  | succ i =>
   rw [List.getElem?_append_right (by simp [sgC]; omega)]
   have e : (i + 1) * 6 + j - (sgC x).length = i * 6 + j := by simp [sgC]; omega
   rw [e, ih i j (by simpa using hi) hj]
   simp [sgAt]
def OwnG (w : World) (B : Nat) (v : Value) (l : List Sg) : Prop := w.ownsRow B 112 6 v l.length (flat6 l)
theorem OwnG.nil (w : World) (B : Nat) : OwnG w B (.slice none 0 0) [] := World.ownsRow_nil w B _ 6
theorem OwnG.nw {w w' : World} {B : Nat} {v : Value} {l : List Sg} (h : OwnG w B v l) (k : Nw w w') : OwnG w' B v l :=
 World.ownsRow.kept h (row := none) ⟨Below.os k, Below.tape k, Below.output k, Below.size k, fun b hb _ => Below.block k b hb⟩ (by cases hv : v.ownBlock <;> simp)
theorem OwnG.lt {w : World} {B : Nat} {v : Value} {l : List Sg} (h : OwnG w B v l) : ∀ g, v.ownBlock = some g → B ≤ g ∧ g < w.heap.size := World.ownsRow.lt h
theorem OwnG.slice {w : World} {B : Nat} {v : Value} {l : List Sg} (h : OwnG w B v l) : ∃ a c, v = .slice a l.length c := by
 rcases h.2 with ⟨hn, h1⟩ | ⟨g, cap, cur, h1, _⟩
 ·exact ⟨_, _, by rw [h1]; exact hn⟩
 ·exact ⟨_, _, h1⟩
def Sgs (w : World) (a : Option Addr) (l : List Sg) : Prop := l = [] ∨ ∃ g, a = some ⟨g, 0, none⟩ ∧ ∀ i, i < l.length → ∀ j u, (sgC (sgAt l i))[j]? = some u → w.cell? ⟨g, i * 6 + j, none⟩ = some u
theorem Sgs.nw {w w' : World} {a : Option Addr} {l : List Sg} (h : Sgs w a l) (k : Nw w w') : Sgs w' a l := by
 rcases h with h | ⟨g, h1, h2⟩
 ·exact Or.inl h
 ·refine Or.inr ⟨g, h1, fun i hi j u hj => ?_⟩
  have h3 := h2 i hi j u hj
  exact ((bcell k).1 _ _ (World.block_lt_of_cell? w ⟨g, _, none⟩ h3)).trans h3
theorem OwnG.sgs {w : World} {B : Nat} {v : Value} {l : List Sg} (h : OwnG w B v l) : ∃ a c, v = .slice a l.length c ∧ Sgs w a l := by
 have h0 := h
 unfold OwnG at h0
 rcases h.2 with ⟨hn, h1⟩ | ⟨g, cap, cur, h1, h2, h3, h4, h5, h6, h7⟩
 ·exact ⟨_, _, by rw [h1]; exact hn, Or.inl (List.eq_nil_of_length_eq_zero h1)⟩
 ·subst h1
  refine ⟨_, _, rfl, Or.inr ⟨g, rfl, fun i hi j u hj => ?_⟩⟩
  have hj6 : j < 6 := by have := (List.getElem?_eq_some_iff.1 hj).1; simpa [sgC] using this
  rw [World.ownsRow.cellAt h0 (i * 6 + j) (by omega), flat6_at l i j hi hj6]
  exact hj
theorem under_sgs : Tryz.prog.underlying 102 = some (.slice 112) := Tryz.underlying102
theorem sgC_one (y : Sg) : ∀ u ∈ sgC y, u.oneCell' = true := by
 intro u hu
 simp only [sgC, List.mem_cons, List.not_mem_nil, or_false] at hu
 rcases hu with rfl | rfl | rfl | rfl | rfl | rfl <;> rfl
theorem info_sg : (Tryz.prog.info? 112).map (fun i => (i.zero, i.size, i.bytes)) = some (some (.agg #[.int .i64 0, .int .i64 0, .int .i64 0, .int .i64 0, .int .i64 0, .int .i64 0]), 6, 48) := by kernel_rfl
theorem wpl_g {ops : Array Oper} {rest : List Oper} {o : Oper} {a : Act} {Q : PQ} (w : World) (hgd : o.guard = none) (s x : Operand)
  (ho : o.op = .call { callee := .builtin .append, args := #[s, x], argTypes := #[102, 102] }) (B : Nat) (v : Value) (l : List Sg) (y : Sg) (hs : a.eval s = v) (hown : OwnG w B v l) (g : Nat) (hx : a.eval x = .slice (some ⟨g, 0, none⟩) 1 1)
  (hc : ∀ j u, (sgC y)[j]? = some u → w.cell? ⟨g, j, none⟩ = some u) (hl : l.length + 1 ≤ 1000000) (hB : B ≤ w.heap.size)
  (h : ∀ g' c' w', OwnG w' B (.slice (some ⟨g', 0, none⟩) (l.length + 1) c') (l ++ [y]) → Ext v (.slice (some ⟨g', 0, none⟩) (l.length + 1) c') w w' → wpList Tryz.prog ops Q rest (a.put o.dst (.slice (some ⟨g', 0, none⟩) (l.length + 1) c')) w') : wpList Tryz.prog ops Q (o :: rest) a w := by
 obtain ⟨i0, hi, hzz'⟩ := Option.map_eq_some_iff.1 info_sg
 simp only [Prod.mk.injEq] at hzz'
 obtain ⟨hz0, hz1, hz2⟩ := hzz'
 refine wpList_append_lies w hgd s x 102 ho B 112 i0 _ 6 48 under_sgs hi hz0 hz1 hz2 (by rfl) (by decide) v l.length (flat6 l) hs hown ⟨g, 0, none⟩ 1 1 (sgC y) hx rfl (fun j u hj => by rw [add_at, Nat.zero_add]; exact hc j u hj) (sgC_one y) (by decide) (by unfold maxLen; omega) (by omega) hB w.heap.size rfl ?_
 intro g' cap w' h2 h3 h4 h5
 refine h g' cap w' ?_ ⟨h3, ?_⟩
 ·unfold OwnG
  rw [List.length_append, flat6_append]
  have : flat6 [y] = sgC y := by simp [flat6]
  rw [this]
  exact h2
 ·rcases h4 with h4 | h4
  ·exact Or.inl (by rw [h4]; rfl)
  ·exact Or.inr ⟨g', rfl, by omega⟩
theorem root_uniq (n r s : Int) (hr : 0 ≤ r) (hs : 0 ≤ s) (r1 : r * r ≤ n) (r2 : n < (r + 1) * (r + 1)) (s1 : s * s ≤ n) (s2 : n < (s + 1) * (s + 1)) : r = s := by
 by_cases h : r < s
 ·have : (r + 1) * (r + 1) ≤ s * s := Int.mul_le_mul (by omega) (by omega) (by omega) (by omega); omega
 by_cases h' : s < r
 ·have : (s + 1) * (s + 1) ≤ r * r := Int.mul_le_mul (by omega) (by omega) (by omega) (by omega); omega
 omega
theorem sq_bd (r : Int) (h0 : 0 ≤ r) (h : r ≤ 2147483648) : 0 ≤ r * r ∧ r * r ≤ 4611686018427387904 :=
 ⟨Int.mul_nonneg h0 h0, Int.mul_le_mul h h h0 (by omega)⟩
set_option maxHeartbeats 1000000 in
theorem whole_any (n : Int) (w : World) (hn : 0 ≤ n) (hn' : n < 4611686018427387904) :
  Calls Tryz.prog 82 #[.int .i64 n] w fun e w' => ∃ r : Int, e = .returned (.int .i64 r) ∧ 0 ≤ r ∧ r * r ≤ n ∧ n < (r + 1) * (r + 1) ∧ w' = w := by
 go_enter Tryz.func82, Tryz.ntmps82
 go_wp2
 go_loop [3, 4] (fun root bit => ∃ (k : Nat) (r T : Int), T = 2 ^ k ∧ k ≤ 31 ∧ 0 ≤ r ∧ r * r ≤ n ∧ n < (r + T) * (r + T) ∧ r + T ≤ 2147483648 ∧ root = .int .i64 r ∧ bit = .int .i64 (T / 2)) (fun _ bit => (intOf bit).toNat)
 case atStart => exact ⟨31, 0, 2147483648, by decide, by omega, by omega, by omega, by omega, by omega, rfl, rfl⟩
 case round =>
  obtain ⟨k, r, T, hT, hk, h0, h1, h2, h3, rfl, rfl⟩ := hrel
  cases k with
  | zero =>
   obtain rfl : T = 1 := by simpa using hT
   clear hT
   go_wp2
   go_ret
   exact ⟨r, rfl, h0, h1, h2, rfl⟩
  | succ j =>
   obtain ⟨B, hB⟩ : ∃ B : Int, B = 2 ^ j := ⟨_, rfl⟩
   have hB1 : 0 < B := by rw [hB]; exact Int.pow_pos (by omega)
   have hTB : T = 2 * B := by rw [hT, hB, Int.pow_succ]; omega
   have HB : Hid (B = 2 ^ j) := hB
   clear hB hT
   subst hTB
   rw [show 2 * B / 2 = B from by omega] at *
   obtain ⟨s1, s2⟩ := sq_bd (r + B) (by omega) (by omega)
   by_cases hc : (r + B) * (r + B) ≤ n
   ·go_wp2
    go_round
    case rel => exact ⟨j, r + B, B, HB.out, by omega, by omega, hc, by rw [show r + B + B = r + 2 * B from by omega]; exact h2, by omega, rfl, rfl⟩
    case measure => simp [intOf]; omega
   ·go_wp2
    go_round
    case rel => exact ⟨j, r, B, HB.out, by omega, h0, h1, by omega, by omega, rfl, rfl⟩
    case measure => simp [intOf]; omega
def rootN : Nat → Nat
 | 0 => 0
 | n + 1 => if (rootN n + 1) * (rootN n + 1) ≤ n + 1 then rootN n + 1 else rootN n
theorem rootN_is (n : Nat) : rootN n * rootN n ≤ n ∧ n < (rootN n + 1) * (rootN n + 1) := by
 induction n with
 | zero => exact ⟨Nat.le_refl _, by decide⟩
 | succ n ih =>
  obtain ⟨h1, h2⟩ := ih
  unfold rootN
  split
  ·rename_i h
   refine ⟨h, ?_⟩
   have : (rootN n + 1) * (rootN n + 1) < (rootN n + 1 + 1) * (rootN n + 1 + 1) := Nat.mul_lt_mul_of_lt_of_lt (by omega) (by omega)
   omega
  ·rename_i h
   exact ⟨by omega, by omega⟩
def sqV (a b : Pnt) : Int := (b.1 - a.1) * (b.1 - a.1) + (b.2 - a.2) * (b.2 - a.2)
def szV (a b : Pnt) : Int := (rootN (sqV a b).toNat : Nat)
theorem sq_nn (x : Int) : 0 ≤ x * x := by
 by_cases h : 0 ≤ x
 ·exact Int.mul_nonneg h h
 ·rw [← Int.neg_mul_neg]; exact Int.mul_nonneg (by omega) (by omega)
theorem sq_le {x : Int} {m : Int} (h1 : -m ≤ x) (h2 : x ≤ m) : x * x ≤ m * m := by
 by_cases h : 0 ≤ x
 ·exact Int.mul_le_mul h2 h2 h (by omega)
 ·rw [← Int.neg_mul_neg]; exact Int.mul_le_mul (by omega) (by omega) (by omega) (by omega)
theorem sqV_nn (a b : Pnt) : 0 ≤ sqV a b := Int.add_nonneg (sq_nn _) (sq_nn _)
theorem szV_is (a b : Pnt) : 0 ≤ szV a b ∧ szV a b * szV a b ≤ sqV a b ∧ sqV a b < (szV a b + 1) * (szV a b + 1) := by
 have h := rootN_is (sqV a b).toNat
 have h0 := sqV_nn a b
 unfold szV
 generalize rootN (sqV a b).toNat = r at *
 have e1 : ((r * r : Nat) : Int) = (r : Int) * r := Int.natCast_mul r r
 have e2 : (((r + 1) * (r + 1) : Nat) : Int) = ((r : Int) + 1) * ((r : Int) + 1) := by rw [Int.natCast_mul]; rfl
 exact ⟨by omega, by omega, by omega⟩
theorem szV_of {a b : Pnt} {r : Int} (h0 : 0 ≤ r) (h1 : r * r ≤ sqV a b) (h2 : sqV a b < (r + 1) * (r + 1)) : r = szV a b := by
 obtain ⟨s0, s1, s2⟩ := szV_is a b
 exact root_uniq _ r _ h0 s0 h1 h2 s1 s2
theorem sqV_le {a b : Pnt} (ha : nearB a = true) (hb : nearB b = true) : sqV a b ≤ 36028797018963968 := by
 obtain ⟨a1, a2⟩ := nearB_nr ha
 obtain ⟨b1, b2⟩ := nearB_nr hb
 unfold nr at *
 have h1 := sq_le (x := b.1 - a.1) (m := 134217728) (by omega) (by omega)
 have h2 := sq_le (x := b.2 - a.2) (m := 134217728) (by omega) (by omega)
 unfold sqV
 omega
theorem szV_le {a b : Pnt} (ha : nearB a = true) (hb : nearB b = true) : szV a b ≤ 268435455 := by
 obtain ⟨s0, s1, s2⟩ := szV_is a b
 have h := sqV_le ha hb
 by_cases c : szV a b ≤ 268435455
 ·exact c
 ·exfalso
  have : (268435456 : Int) * 268435456 ≤ szV a b * szV a b := Int.mul_le_mul (by omega) (by omega) (by omega) (by omega)
  omega
set_option maxHeartbeats 2000000 in
theorem ssize (w : World) (a b : Pnt) (ha : nearB a = true) (hb : nearB b = true) :
  Calls Tryz.prog 85 #[.agg #[.int .i64 a.1, .int .i64 a.2], .agg #[.int .i64 b.1, .int .i64 b.2]] w fun e w' => e = .returned (.int .i64 (szV a b)) ∧ Kp w w' := by
 have HX : Hid (∀ r, 0 ≤ r → r * r ≤ sqV a b → sqV a b < (r + 1) * (r + 1) → r = szV a b) := fun r h0 h1 h2 => szV_of h0 h1 h2
 have hq := sqV_le ha hb
 have hq0 := sqV_nn a b
 obtain ⟨a1, a2⟩ := nearB_nr ha
 obtain ⟨b1, b2⟩ := nearB_nr hb
 clear ha hb
 obtain ⟨ax, ay⟩ := a
 obtain ⟨bx, by'⟩ := b
 unfold nr at *
 simp only at *
 have hD1 := sq_le (x := bx - ax) (m := 134217728) (by omega) (by omega)
 have hD2 := sq_le (x := by' - ay) (m := 134217728) (by omega) (by omega)
 have hN1 := sq_nn (bx - ax)
 have hN2 := sq_nn (by' - ay)
 have hS : sqV (ax, ay) (bx, by') = (bx - ax) * (bx - ax) + (by' - ay) * (by' - ay) := rfl
 generalize szV (ax, ay) (bx, by') = V at *
 rw [hS] at HX hq hq0
 clear hS
 go_enter Tryz.func85, Tryz.ntmps85
 go_wp2
 go_loop [7, 8] (fun lo hi => ∃ l h : Int, lo = .int .i64 l ∧ hi = .int .i64 h ∧ 0 ≤ l ∧ l ≤ h ∧ h ≤ 268435456 ∧ l * l ≤ (bx - ax) * (bx - ax) + (by' - ay) * (by' - ay) ∧ (bx - ax) * (bx - ax) + (by' - ay) * (by' - ay) < (h + 1) * (h + 1)) (fun lo hi => (intOf hi - intOf lo).toNat)
 case atStart => exact ⟨0, 268435456, rfl, rfl, by omega, by omega, by omega, by omega, by omega⟩
 case round =>
  obtain ⟨l, h, rfl, rfl, h0, h1, h2, h3, h4⟩ := hrel
  have H4 : Hid _ := h4
  have H3 : Hid _ := h3
  clear h4 h3
  by_cases hlt : l < h
  ·have m1 : l < l + (h - l + 1) / 2 := by omega
   have m2 : l + (h - l + 1) / 2 ≤ h := by omega
   obtain ⟨s1, s2⟩ := sq_bd (l + (h - l + 1) / 2) (by omega) (by omega)
   by_cases hc : (bx - ax) * (bx - ax) + (by' - ay) * (by' - ay) < (l + (h - l + 1) / 2) * (l + (h - l + 1) / 2)
   ·have hd : decide ((bx - ax) * (bx - ax) + (by' - ay) * (by' - ay) < (l + (h - l + 1) / 2) * (l + (h - l + 1) / 2)) = true := decide_eq_true hc
    go_wp2
    go_round
    case rel => exact ⟨l, l + (h - l + 1) / 2 - 1, rfl, rfl, h0, by omega, by omega, H3.out, by rw [Int.sub_add_cancel]; exact hc⟩
    case measure => simp [intOf]; omega
   ·have hd : decide ((bx - ax) * (bx - ax) + (by' - ay) * (by' - ay) < (l + (h - l + 1) / 2) * (l + (h - l + 1) / 2)) = false := decide_eq_false hc
    go_wp2
    go_round
    case rel => exact ⟨l + (h - l + 1) / 2, h, rfl, rfl, by omega, m2, h2, by omega, H4.out⟩
    case measure => simp [intOf]; omega
  ·obtain rfl : l = h := by omega
   have HE : Hid (l = V) := HX.out l h0 H3.out H4.out
   clear hlt
   go_wp2
   go_ret
   exact ⟨ret_int HE.out, ((Kp.refl w).alloc _ _).alloc _ _⟩
def soV (a b : Pnt) : Int × Bool := if nearB a = true ∧ nearB b = true then (szV a b, true) else (0, false)
set_option maxHeartbeats 2000000 in
theorem isizeOf (w : World) (a b : Pnt) :
  Calls Tryz.prog 62 #[.agg #[.int .i64 a.1, .int .i64 a.2], .agg #[.int .i64 b.1, .int .i64 b.2]] w fun e w' => e = .returned (.tuple #[.int .i64 (soV a b).1, .bool (soV a b).2]) ∧ Kp w w' := by
 have hv : soV a b = if nearsB [a, b] = true then (szV a b, true) else (0, false) := by
  unfold soV nearsB
  cases h1 : nearB a <;> cases h2 : nearB b <;> simp [h1, h2]
 have HN : Hid (∀ (w : World) (g : Nat), Pts w (some ⟨g, 0, none⟩) [a, b] → _) := fun w g h => inear w (some ⟨g, 0, none⟩) 2 [a, b] (by simp) h
 have HZ : Hid (nearsB [a, b] = true → nearB a = true ∧ nearB b = true) := fun h => by simpa [nearsB] using h
 rw [hv]
 clear hv
 obtain ⟨ax, ay⟩ := a
 obtain ⟨bx, by'⟩ := b
 simp only at *
 have k1 : ∀ t1 t2 t3, Kp w (((w.alloc (.cells #[.int .i64 ax, .int .i64 ay] t1)).alloc (.cells #[.int .i64 bx, .int .i64 by'] t2)).alloc (.cells #[.int .i64 ax, .int .i64 ay, .int .i64 bx, .int .i64 by'] t3)) := fun t1 t2 t3 => (((Kp.refl w).alloc _ _).alloc _ _).alloc _ _
 have p1 : ∀ t1 t2 t3, Pts (((w.alloc (.cells #[.int .i64 ax, .int .i64 ay] t1)).alloc (.cells #[.int .i64 bx, .int .i64 by'] t2)).alloc (.cells #[.int .i64 ax, .int .i64 ay, .int .i64 bx, .int .i64 by'] t3)) (some ⟨w.heap.size + 1 + 1, 0, none⟩) [(ax, ay), (bx, by')] := fun t1 t2 t3 => by
  have := pts2_new ((w.alloc (.cells #[.int .i64 ax, .int .i64 ay] t1)).alloc (.cells #[.int .i64 bx, .int .i64 by'] t2)) ax ay bx by' t3
  rw [World.size_alloc, World.size_alloc] at this
  exact this
 cases hb : nearsB [(ax, ay), (bx, by')] with
 | false =>
  rw [hb] at HN
  rw [if_neg (fun h => by cases h)]
  simp only
  clear hb HZ
  go_enter Tryz.func62, Tryz.ntmps62
  go_wp2_with fail
  refine Calls.mono (HN.out _ _ (p1 _ _ _)) ?_
  rintro e w1 ⟨rfl, h1⟩
  have K1 : Hid (Kp w w1) := Kp.trans (k1 _ _ _) h1
  clear h1
  go_wp2
  go_ret2
  exact ⟨rfl, K1.out⟩
 | true =>
  rw [hb] at HN
  rw [if_pos rfl]
  obtain ⟨na, nb⟩ := HZ.out hb
  have hq := sqV_le na nb
  have hq0 := sqV_nn (ax, ay) (bx, by')
  obtain ⟨a1, a2⟩ := nearB_nr na
  obtain ⟨b1, b2⟩ := nearB_nr nb
  simp only at a1 a2 b1 b2 ⊢
  have HX : Hid (∀ r, 0 ≤ r → r * r ≤ sqV (ax, ay) (bx, by') → sqV (ax, ay) (bx, by') < (r + 1) * (r + 1) → r = szV (ax, ay) (bx, by')) := fun r h0 h1 h2 => szV_of h0 h1 h2
  have HM : Hid _ := fun w => iminus w bx by' ax ay (nr_sml b1) (nr_sml b2) (nr_sml a1) (nr_sml a2)
  unfold nr at a1 a2 b1 b2
  have hD1 := sq_le (x := bx - ax) (m := 134217728) (by omega) (by omega)
  have hD2 := sq_le (x := by' - ay) (m := 134217728) (by omega) (by omega)
  have hN1 := sq_nn (bx - ax)
  have hN2 := sq_nn (by' - ay)
  have hS : sqV (ax, ay) (bx, by') = (bx - ax) * (bx - ax) + (by' - ay) * (by' - ay) := rfl
  generalize szV (ax, ay) (bx, by') = V at *
  rw [hS] at HX hq hq0
  have HW : Hid _ := fun w => whole_any ((bx - ax) * (bx - ax) + (by' - ay) * (by' - ay)) w (by omega) (by omega)
  clear hS hb HZ na nb
  generalize bx - ax = dx at *
  generalize by' - ay = dy at *
  go_enter Tryz.func62, Tryz.ntmps62
  go_wp2_with fail
  refine Calls.mono (HN.out _ _ (p1 _ _ _)) ?_
  rintro e w1 ⟨rfl, h1⟩
  have K1 : Hid (Kp w w1) := Kp.trans (k1 _ _ _) h1
  obtain ⟨⟨q0, q1⟩, ⟨q2, q3⟩, _⟩ := boxes2 (Kp.trans ((Kp.refl _).alloc _ _) h1)
  clear h1 k1 p1 HN
  go_wp2_with fail
  refine Calls.mono (HM.out _) ?_
  rintro e w2 ⟨rfl, h2⟩
  have K2 : Hid (Kp w w2) := Kp.trans K1.out h2
  clear h2 q0 q1 q2 q3 HM
  go_wp2_with fail
  refine Calls.mono (HW.out _) ?_
  rintro e w3 ⟨r, rfl, r0, r1, r2, rfl⟩
  have HE : Hid (r = V) := HX.out r r0 r1 r2
  clear r2 r1
  go_wp2
  refine bodyPost_ret (v := .tuple #[.int .i64 r, .bool true]) (by simp [results, Tryz.results62, go_sem]) rfl ⟨by rw [HE.out], ?_⟩
  exact K2.out.alloc _ _
theorem half_mul (a b : Int) (ha : 0 ≤ a) (ha' : a ≤ 4294967295) (hb : 0 ≤ b) (hb' : b ≤ 4294967295) : 0 ≤ a * b ∧ a * b ≤ 18446744065119617025 :=
 ⟨Int.mul_nonneg ha hb, Int.mul_le_mul ha' hb' hb (by omega)⟩
theorem or_low (m r : Int) (hr : 0 ≤ r) (hr' : r < 4294967296) : bits .or .u64 (IntKind.u64.wrap (m * 4294967296)) r = (m % 4294967296) * 4294967296 + r := by
 have e : IntKind.u64.wrap (m * 4294967296) = (m % 4294967296) * 4294967296 := by rw [IntKind.wrap_u64]; omega
 rw [e]
 obtain ⟨x, hx⟩ := Int.eq_ofNat_of_zero_le (a := m % 4294967296) (by omega)
 obtain ⟨y, rfl⟩ := Int.eq_ofNat_of_zero_le hr
 rw [hx]
 have hx' : x < 4294967296 := by omega
 have h := bits_or_u64_nat (x * 4294967296) y (by omega) (by omega)
 have h2 := Nat.two_pow_add_eq_or_of_lt (i := 32) (b := y) (by omega) x
 have e2 : ((x : Int) * 4294967296) = ((x * 4294967296 : Nat) : Int) := by omega
 have e3 : x * 4294967296 = 2 ^ 32 * x := by omega
 rw [e2, h, e3, ← h2]
 omega
theorem split_prod (a b : Int) : a * b = a / 4294967296 * (b / 4294967296) * 18446744073709551616 + (a / 4294967296 * (b % 4294967296) + a % 4294967296 * (b / 4294967296)) * 4294967296 + a % 4294967296 * (b % 4294967296) := by
 have h1 := Int.mul_ediv_add_emod a 4294967296
 have h2 := Int.mul_ediv_add_emod b 4294967296
 generalize a / 4294967296 = y at *
 generalize a % 4294967296 = x at *
 generalize b / 4294967296 = v at *
 generalize b % 4294967296 = u at *
 rw [← h1, ← h2, Int.add_mul, Int.mul_add, Int.mul_add]
 have e1 : 4294967296 * y * (4294967296 * v) = y * v * 18446744073709551616 := by
  rw [Int.mul_assoc, Int.mul_left_comm y 4294967296 v]; omega
 have e2 : 4294967296 * y * u = y * u * 4294967296 := by rw [Int.mul_assoc]; omega
 have e3 : x * (4294967296 * v) = x * v * 4294967296 := by rw [Int.mul_left_comm]; omega
 rw [e1, e2, e3]; omega
theorem times_eqs (a b : Int) (ha : 0 ≤ a) (ha' : a < 18446744073709551616) (hb : 0 ≤ b) (hb' : b < 18446744073709551616) :
    (a / 4294967296 * (b / 4294967296) + (a / 4294967296 * (b % 4294967296) + a % 4294967296 * (b % 4294967296) / 4294967296) / 4294967296 +
          (a % 4294967296 * (b / 4294967296) + (a / 4294967296 * (b % 4294967296) + a % 4294967296 * (b % 4294967296) / 4294967296) % 4294967296) / 4294967296 = a * b / 18446744073709551616) ∧
    (bits BinOp.or IntKind.u64 (IntKind.u64.wrap ((a % 4294967296 * (b / 4294967296) + (a / 4294967296 * (b % 4294967296) + a % 4294967296 * (b % 4294967296) / 4294967296) % 4294967296) * 4294967296))
          (a % 4294967296 * (b % 4294967296) % 4294967296) = a * b % 18446744073709551616) := by
  obtain ⟨p1, p2⟩ := half_mul (a % 4294967296) (b % 4294967296) (by omega) (by omega) (by omega) (by omega)
  obtain ⟨q1, q2⟩ := half_mul (a / 4294967296) (b % 4294967296) (by omega) (by omega) (by omega) (by omega)
  obtain ⟨r1, r2⟩ := half_mul (a % 4294967296) (b / 4294967296) (by omega) (by omega) (by omega) (by omega)
  obtain ⟨s1, s2⟩ := half_mul (a / 4294967296) (b / 4294967296) (by omega) (by omega) (by omega) (by omega)
  have e := split_prod a b
  generalize a / 4294967296 * (b / 4294967296) = s at *
  generalize a / 4294967296 * (b % 4294967296) = q at *
  generalize a % 4294967296 * (b / 4294967296) = r at *
  generalize a % 4294967296 * (b % 4294967296) = p at *
  rw [e, or_low _ _ (by omega) (by omega)]
  exact ⟨by omega, by omega⟩
set_option maxHeartbeats 1000000 in
theorem times_any (a b : Int) (w : World) (ha : 0 ≤ a) (ha' : a < 18446744073709551616) (hb : 0 ≤ b) (hb' : b < 18446744073709551616) :
  Calls Tryz.prog 121 #[.int .u64 a, .int .u64 b] w fun e w' => e = .returned (.agg #[.int .u64 (a * b / 18446744073709551616), .int .u64 (a * b % 18446744073709551616)]) ∧ ∃ c1 : Array Value, w' = w.alloc (.cells c1 149) := by
 obtain ⟨p1, p2⟩ := half_mul (a % 4294967296) (b % 4294967296) (by omega) (by omega) (by omega) (by omega)
 obtain ⟨q1, q2⟩ := half_mul (a / 4294967296) (b % 4294967296) (by omega) (by omega) (by omega) (by omega)
 obtain ⟨r1, r2⟩ := half_mul (a % 4294967296) (b / 4294967296) (by omega) (by omega) (by omega) (by omega)
 obtain ⟨s1, s2⟩ := half_mul (a / 4294967296) (b / 4294967296) (by omega) (by omega) (by omega) (by omega)
 go_enter Tryz.func121, Tryz.ntmps121
 go_wp2
 simp [bodyPost, results, Tryz.results121, go_sem]
 exact ⟨times_eqs a b ha ha' hb hb', _, rfl⟩
set_option maxHeartbeats 1000000 in
theorem less_any (a b : Int) (w : World) :
  Calls Tryz.prog 137 #[.agg #[.int .u64 (a / 18446744073709551616), .int .u64 (a % 18446744073709551616)], .agg #[.int .u64 (b / 18446744073709551616), .int .u64 (b % 18446744073709551616)]] w fun e w' => e = .returned (.bool (decide (a < b))) ∧ ∃ c1 c2 : Array Value, w' = (w.alloc (.cells c1 149)).alloc (.cells c2 149) := by
 have h1 : a / 18446744073709551616 < b / 18446744073709551616 ∨ (a / 18446744073709551616 = b / 18446744073709551616 ∧ a % 18446744073709551616 < b % 18446744073709551616) ↔ a < b := by omega
 generalize a / 18446744073709551616 = p at *
 generalize a % 18446744073709551616 = q at *
 generalize b / 18446744073709551616 = r at *
 generalize b % 18446744073709551616 = s at *
 by_cases c1 : p < r
 ·have e : decide (a < b) = true := by simp only [decide_eq_true_eq]; exact h1.1 (Or.inl c1)
  rw [e]; clear e h1
  go_enter Tryz.func137, Tryz.ntmps137
  go_wp2
  go_ret
  exact ⟨rfl, _, _, rfl⟩
 by_cases c2 : p = r
 ·subst c2
  by_cases c3 : q < s
  ·have e : decide (a < b) = true := by simp only [decide_eq_true_eq]; exact h1.1 (Or.inr ⟨rfl, c3⟩)
   rw [e]; clear e h1
   go_enter Tryz.func137, Tryz.ntmps137
   go_wp2
   go_ret
   exact ⟨rfl, _, _, rfl⟩
  ·have e : decide (a < b) = false := by simp only [decide_eq_false_iff_not]; intro h; have := h1.2 h; omega
   rw [e]; clear e h1
   go_enter Tryz.func137, Tryz.ntmps137
   go_wp2
   go_ret
   exact ⟨rfl, _, _, rfl⟩
 ·have e : decide (a < b) = false := by simp only [decide_eq_false_iff_not]; intro h; have := h1.2 h; omega
  rw [e]; clear e h1
  go_enter Tryz.func137, Tryz.ntmps137
  go_wp2
  go_ret
  exact ⟨rfl, _, _, rfl⟩
theorem less_at (a b p q : Int) (hp : a / 18446744073709551616 = p) (hq : a % 18446744073709551616 = q) (w : World) :
  Calls Tryz.prog 137 #[.agg #[.int .u64 p, .int .u64 q], .agg #[.int .u64 (b / 18446744073709551616), .int .u64 (b % 18446744073709551616)]] w fun e w' => e = .returned (.bool (decide (a < b))) ∧ ∃ c1 c2 : Array Value, w' = (w.alloc (.cells c1 149)).alloc (.cells c2 149) := by
 rw [← hp, ← hq]; exact less_any a b w
set_option maxHeartbeats 1000000 in
theorem plus_any (p q b : Int) (w : World) (hp : 0 ≤ p) (hp' : p < 18446744073709551615) (hq : 0 ≤ q) (hq' : q < 18446744073709551616) (hb : 0 ≤ b) (hb' : b < 18446744073709551616) :
  Calls Tryz.prog 129 #[.agg #[.int .u64 p, .int .u64 q], .int .u64 b] w fun e w' => e = .returned (.agg #[.int .u64 ((p * 18446744073709551616 + q + b) / 18446744073709551616), .int .u64 ((p * 18446744073709551616 + q + b) % 18446744073709551616)]) ∧ Kp w w' := by
 by_cases c : q + b < 18446744073709551616
 ·have e1 : (p * 18446744073709551616 + q + b) / 18446744073709551616 = p := by omega
  have e2 : (p * 18446744073709551616 + q + b) % 18446744073709551616 = q + b := by omega
  rw [e1, e2]; clear e1 e2
  go_enter Tryz.func129, Tryz.ntmps129
  go_wp2
  simp [bodyPost, results, Tryz.results129, go_sem]
  exact ((Kp.refl w).alloc _ _).alloc _ _
 ·have e1 : (p * 18446744073709551616 + q + b) / 18446744073709551616 = p + 1 := by omega
  have e2 : (p * 18446744073709551616 + q + b) % 18446744073709551616 = q + b - 18446744073709551616 := by omega
  rw [e1, e2]; clear e1 e2
  have hw : IntKind.u64.wrap (q + b) = q + b - 18446744073709551616 := by rw [IntKind.wrap_u64]; omega
  go_enter Tryz.func129, Tryz.ntmps129
  go_wp2
  simp [bodyPost, results, Tryz.results129, go_sem]
  exact ((Kp.refl w).alloc _ _).alloc _ _
end Go.Proofs.YtnkeljmecbohkaaGreat
