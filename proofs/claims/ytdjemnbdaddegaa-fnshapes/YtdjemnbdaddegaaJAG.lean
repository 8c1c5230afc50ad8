/-
  A line in a variable, to whose points is appended; each theo
-/
import Derived.Test.YtdjemnbdaddegaaJAF
import Derived.Test.YtdjemnbdaddegaaJAE
import Derived.Test.YtdjemnbdaddegaaJAA
import Derived.Orders
namespace Go.Proofs.Ytdjemnbdaddegaa
open Go.ChangeShapes Go.WideShapes Go.ChangeAt Go.RowKit
set_option linter.unusedVariables false
structure LnB (bx : Nat) (w : World) (v : Value) (l : List Pnt) (cl : Bool) : Prop where
 c0 : w.cell? ⟨bx, 0, none⟩ = some v
 c1 : w.cell? ⟨bx, 1, none⟩ = some (.bool cl)
 free : ∀ o, w.frozen? ⟨bx, o, none⟩ = false
 own : OwnP w (bx + 1) v l
theorem LnB.lt {bx : Nat} {w : World} {v : Value} {l : List Pnt} {cl : Bool} (h : LnB bx w v l cl) : bx < w.heap.size := World.block_lt_of_cell? w ⟨bx, 0, none⟩ h.c0
theorem LnB.nw {bx : Nat} {w w' : World} {v : Value} {l : List Pnt} {cl : Bool} (h : LnB bx w v l cl) (k : Nw w w') : LnB bx w' v l cl :=
 ⟨((bcell k).1 _ _ h.lt).trans h.c0, ((bcell k).1 _ _ h.lt).trans h.c1, fun o => ((bcell k).2 _ _ h.lt).trans (h.free o), h.own.nw k⟩
theorem LnB.new (w : World) (t : TypeId) (cl : Bool) : LnB w.heap.size (w.alloc (.cells #[.slice none 0 0, .bool cl] t)) (.slice none 0 0) [] cl :=
 ⟨by simp, by simp, fun o => World.frozen?_alloc_at _ _ _ _ rfl, OwnP.nil _ _⟩
theorem LnB.ne {bx : Nat} {w : World} {v : Value} {l : List Pnt} {cl : Bool} (h : LnB bx w v l cl) : v.ownBlock ≠ some bx := fun e => by
 have := (OwnQ.lt h.own bx e).1
 omega
theorem LnB.there {bx : Nat} {w w' : World} {v v' : Value} {l : List Pnt} {cl : Bool} (h : LnB bx w v l cl) (k : Ext v v' w w') : w'.cell? ⟨bx, 0, none⟩ = some v ∧ ∀ o, w'.frozen? ⟨bx, o, none⟩ = false :=
 ⟨(Ext.cell k h.lt h.ne 0).trans h.c0, fun o => (World.frozen?_of_block (w := w) (a := ⟨bx, o, none⟩) (k.1.block bx h.lt (fun e => h.ne e.symm))).trans (h.free o)⟩
theorem LnB.put {bx : Nat} {w w' : World} {v v' : Value} {l l' : List Pnt} {cl : Bool} (h : LnB bx w v l cl) (k : Ext v v' w w') (ho : OwnP w' (bx + 1) v' l') : LnB bx (w'.setCell ⟨bx, 0, none⟩ v') v' l' cl ∧ Below bx w (w'.setCell ⟨bx, 0, none⟩ v') := by
 have hb := h.lt
 have hne2 : v'.ownBlock ≠ some bx := Ext.apart k hb h.ne
 obtain ⟨t0, tf⟩ := h.there k
 refine ⟨⟨World.cell?_setCell_same w' ⟨bx, 0, none⟩ _ t0, ?_, fun o => by rw [World.frozen?_setCell]; exact tf o, OwnQ.far ho bx 0 _ hne2⟩, ?_⟩
 ·rw [World.cell?_setCell_other _ _ _ _ (fun e => by injection e; omega)]
  exact (Ext.cell k hb h.ne 1).trans h.c1
 ·exact (k.below (fun g e => Nat.le_of_succ_le (OwnQ.lt h.own g e).1) (by omega)).setCell (Nat.le_refl _) _
theorem st_call {w : World} {ops : Array Oper} {o : Oper} {a : Act} {K : Act → World → Prop} {Q : PQ} {E : Prop} (f : FuncId) (args : Array Value) (hgd : o.guard = none) (hrun : (execOp a.eval o).run Try.prog w = .ok (.enter f args) w)
  (hc : Calls Try.prog f args w fun e w' => ∃ v, e = .returned v ∧ K (a.put o.dst v) w') : if Region.wanted o (yielded ops a.tmps) = true then Oper.wp Try.prog o a w K Q else E := by
 have hw : Region.wanted o (yielded ops a.tmps) = true := by simp [Region.wanted, hgd]
 rw [if_pos hw]
 unfold Oper.wp
 rw [hrun]
 refine Calls.mono hc ?_
 rintro e w' ⟨v, rfl, h⟩
 exact h
theorem st_one (w : World) {ops : Array Oper} {o : Oper} {a : Act} (s x : Operand) (ho : o.op = .call { callee := .builtin .append, args := #[s, x], argTypes := #[23, 23] })
  (bx : Nat) (v : Value) (l : List Pnt) (cl : Bool) (px py : Int) (t : TypeId) (hs : a.eval s = v) (h : LnB bx w v l cl) (hx : a.eval x = .slice (some ⟨w.heap.size, 0, none⟩) 1 1) (hl : l.length + 1 ≤ 1000000) (hgd : o.guard = none)
  {K : Act → World → Prop} {Q : PQ} {E : Prop}
  (hk : ∀ g' c' w', OwnP w' (bx + 1) (.slice (some ⟨g', 0, none⟩) (l.length + 1) c') (l ++ [(px, py)]) → Ext v (.slice (some ⟨g', 0, none⟩) (l.length + 1) c') w w' → K (a.put o.dst (.slice (some ⟨g', 0, none⟩) (l.length + 1) c')) w') :
  if Region.wanted o (yielded ops a.tmps) = true then Oper.wp Try.prog o a (w.alloc (.cells #[.int .i64 px, .int .i64 py] t)) K Q else E := by
 have n1 : Nw w (w.alloc (.cells #[.int .i64 px, .int .i64 py] t)) := (Below.refl _ _).alloc (Nat.le_refl _) _
 refine st_q 27 23 23 (.int .i64 0) (.int .i64 0) 16 under_pts under_pts Try.info27 (by decide) rfl _ s x ho (bx + 1) v (vP l) (vP [(px, py)]) hs (h.own.nw n1) w.heap.size 0 1 1 rfl hx (liep_one w px py t).vv (vP_one _) (by simp [vP]) (by rw [vP_len]; simp [vP]; omega) (by have := h.lt; simp; omega) hgd ?_
 intro g' c' w' h2 h3
 rw [vP_len] at h2 h3 ⊢
 rw [← vP_append] at h2
 exact hk g' c' w' h2 (n1.ext h3)
def regOf (k : Nat) : Go.Code → Option (Array Oper)
 | .region id ops _ => if id = k then some ops else none
 | .seq a b => match regOf k a with | some x => some x | none => regOf k b
 | .cond _ t e => match regOf k t with | some x => some x | none => regOf k e
 | .block _ b => regOf k b
 | .loop b => regOf k b
 | .scope b => regOf k b
 | _ => none
def opsOf (k : Nat) (f : Func) : Array Oper := (f.body.bind (regOf k)).getD #[]
theorem reg_change {P : Program} {Q : PQ} {id : Nat} {ops ops' : Array Oper} {b : Bool} {a : Act} {w : World} (h : ops = ops') (hw : (Code.region id ops' b).wp P Q a w) : (Code.region id ops b).wp P Q a w := by rw [h]; exact hw
section
variable {P : Program} {md : Region.Mode} {ops : Array Oper} {Q : PQ}
theorem flt_le {p q : Nat → Bool} (h : ∀ x, q x = true → p x = true) : ∀ l : List Nat, (l.filter q).length ≤ (l.filter p).length
 | [] => Nat.le_refl _
 | y :: l => by
  have ih := flt_le h l
  rw [List.filter_cons, List.filter_cons]
  cases hq : q y with
  | true => rw [h y hq]; simp only [if_true, List.length_cons]; omega
  | false =>
   cases hp : p y with
   | true => simp only [Bool.false_eq_true, if_false, if_true, List.length_cons]; omega
   | false => simp only [Bool.false_eq_true, if_false]; exact ih
theorem flt_lt {p q : Nat → Bool} (h : ∀ x, q x = true → p x = true) (x : Nat) (h1 : p x = true) (h2 : q x = false) : ∀ l : List Nat, x ∈ l → (l.filter q).length < (l.filter p).length
 | y :: l, hx => by
  rw [List.filter_cons, List.filter_cons]
  have le := flt_le h l
  by_cases e : x = y
  ·subst e
   rw [h1, h2]
   simp only [Bool.false_eq_true, if_false, if_true, List.length_cons]; omega
  ·have ih := flt_lt h x h1 h2 l (by rcases List.mem_cons.1 hx with h | h; exact absurd h e; exact h)
   cases hq : q y with
   | true => rw [h y hq]; simp only [if_true, List.length_cons]; omega
   | false =>
    cases hp : p y with
    | true => simp only [Bool.false_eq_true, if_false, if_true, List.length_cons]; omega
    | false => simp only [Bool.false_eq_true, if_false]; exact ih
def left (n : Nat) (listed : Array Bool) : Nat := ((List.range n).filter fun i => !listed.getD i true).length
theorem left_set {n i : Nat} {listed : Array Bool} (hn : i < n) (h : listed.getD i true = false) : left n (listed.setIfInBounds i true) < left n listed := by
 have hi : i < listed.size := by
  rcases Nat.lt_or_ge i listed.size with h1 | h1
  ·exact h1
  ·rw [Array.getD_eq_getD_getElem?, Array.getElem?_eq_none h1] at h; cases h
 refine flt_lt (fun x hx => ?_) i (by rw [h]; rfl) ?_ _ (List.mem_range.2 hn)
 ·by_cases e : i = x
  ·subst e; rw [Array.getD_eq_getD_getElem?, Array.getElem?_setIfInBounds_self_of_lt hi] at hx; cases hx
  ·rw [Array.getD_eq_getD_getElem?, Array.getElem?_setIfInBounds_ne e, ← Array.getD_eq_getD_getElem?] at hx; exact hx
 ·rw [Array.getD_eq_getD_getElem?, Array.getElem?_setIfInBounds_self_of_lt hi]; rfl
theorem wpAny_inv (I : Array Bool → Act → World → Prop)
  (hstep : ∀ listed a w i o, I listed a w → listed.getD i true = false → ops[i]? = some o → (∀ e ∈ o.after, Region.binds md e = true → listed.getD e.on false = true) → wpOp P ops Q i (fun a' w' => I (listed.setIfInBounds i true) a' w') a w)
  (hend : ∀ listed a w, I listed a w → Region.ready md ops listed = [] → Q .normal a w) :
  ∀ (fuel : Nat) (listed : Array Bool) (a : Act) (w : World), I listed a w → left ops.size listed ≤ fuel → wpAny P md ops Q fuel listed a w := by
 intro fuel
 induction fuel with
 | zero =>
  intro listed a w hI hl
  have hr : Region.ready md ops listed = [] := by
   rw [List.eq_nil_iff_forall_not_mem]
   intro i hi
   obtain ⟨h1, o, ho, _⟩ := mem_ready.1 hi
   have hlt : i < ops.size := (Array.getElem?_eq_some_iff.1 ho).1
   have := left_set hlt h1
   omega
  exact ⟨hr, hend listed a w hI hr⟩
 | succ fuel ih =>
  intro listed a w hI hl
  refine ⟨fun hr => hend listed a w hI hr, fun i hi => ?_⟩
  obtain ⟨h1, o, ho, h2⟩ := mem_ready.1 hi
  have hlt : i < ops.size := (Array.getElem?_eq_some_iff.1 ho).1
  have := left_set hlt h1
  exact wpOp_mono (fun a' w' h => ih _ a' w' h (by omega)) (hstep listed a w i o hI h1 ho h2)
def dstOf (ops : Array Oper) (i : Nat) : Option Nat := (ops[i]?).bind (·.dst)
def got (ops : Array Oper) (listed : Array Bool) (d : Nat) : Prop := ∃ i, listed.getD i false = true ∧ dstOf ops i = some d
structure FrI (ops : Array Oper) (val : Nat → Value) (a0 : Act) (listed : Array Bool) (a : Act) : Prop where
 size : listed.size = ops.size
 defers : a.defers = a0.defers
 tsize : a.tmps.size = a0.tmps.size
 yes : ∀ d, d < a0.tmps.size → got ops listed d → a.tmps.getD d undef = val d
 no : ∀ d, ¬ got ops listed d → a.tmps.getD d undef = a0.tmps.getD d undef
theorem getF_set {listed : Array Bool} {i j : Nat} (hi : i < listed.size) : (listed.setIfInBounds i true).getD j false = (decide (j = i) || listed.getD j false) := by
 by_cases e : i = j
 ·subst e; rw [Array.getD_eq_getD_getElem?, Array.getElem?_setIfInBounds_self_of_lt hi]; simp
 ·rw [Array.getD_eq_getD_getElem?, Array.getElem?_setIfInBounds_ne e, ← Array.getD_eq_getD_getElem?, decide_eq_false (fun h => e h.symm)]; rfl
theorem got_set {listed : Array Bool} {i d : Nat} (hi : i < listed.size) : got ops (listed.setIfInBounds i true) d ↔ dstOf ops i = some d ∨ got ops listed d := by
 constructor
 ·rintro ⟨j, h1, h2⟩
  rw [getF_set hi] at h1
  by_cases e : j = i
  ·subst e; exact Or.inl h2
  ·rw [decide_eq_false e] at h1; exact Or.inr ⟨j, h1, h2⟩
 ·rintro (h | ⟨j, h1, h2⟩)
  ·exact ⟨i, by rw [getF_set hi]; simp, h⟩
  ·exact ⟨j, by rw [getF_set hi, h1]; simp, h2⟩
theorem FrI.lt {val : Nat → Value} {a0 a : Act} {listed : Array Bool} (h : FrI ops val a0 listed a) {i : Nat} {o : Oper} (ho : ops[i]? = some o) : i < listed.size := by
 rw [h.size]; exact (Array.getElem?_eq_some_iff.1 ho).1
theorem FrI.put {val : Nat → Value} {a0 a : Act} {listed : Array Bool} (h : FrI ops val a0 listed a) {i d : Nat} {o : Oper} (ho : ops[i]? = some o) (hd : o.dst = some d) : FrI ops val a0 (listed.setIfInBounds i true) (a.put o.dst (val d)) := by
 have hi := h.lt ho
 have hdo : dstOf ops i = some d := by unfold dstOf; rw [ho]; exact hd
 rw [hd]
 have hget : ∀ d', ((a.tmps.setIfInBounds d (val d)).getD d' undef) = if d' = d ∧ d < a.tmps.size then val d else a.tmps.getD d' undef := fun d' => by
  by_cases e : d = d'
  ·subst e
   by_cases hs : d < a.tmps.size
   ·rw [Array.getD_eq_getD_getElem?, Array.getElem?_setIfInBounds_self_of_lt hs, if_pos ⟨rfl, hs⟩]; rfl
   ·rw [if_neg (fun h => hs h.2), Array.setIfInBounds_eq_of_size_le (by omega)]
  ·rw [if_neg (fun h => e h.1.symm), Array.getD_eq_getD_getElem?, Array.getElem?_setIfInBounds_ne e, ← Array.getD_eq_getD_getElem?]
 refine ⟨by rw [Array.size_setIfInBounds]; exact h.size, h.defers, by show (a.tmps.setIfInBounds d (val d)).size = _; rw [Array.size_setIfInBounds]; exact h.tsize, fun d' hd' hg => ?_, fun d' hg => ?_⟩
 ·show (a.tmps.setIfInBounds d (val d)).getD d' undef = val d'
  rw [hget]
  by_cases e : d' = d
  ·subst e; rw [if_pos ⟨rfl, by rw [h.tsize]; exact hd'⟩]
  ·rw [if_neg (fun h => e h.1)]
   rcases (got_set hi).1 hg with h1 | h1
   ·rw [hdo] at h1; exact absurd (Option.some.inj h1).symm e
   ·exact h.yes d' hd' h1
 ·show (a.tmps.setIfInBounds d (val d)).getD d' undef = _
  rw [hget, if_neg]
  ·exact h.no d' (fun h1 => hg ((got_set hi).2 (Or.inr h1)))
  ·rintro ⟨e, _⟩
   exact hg ((got_set hi).2 (Or.inl (by rw [hdo, e])))
theorem FrI.skip {val : Nat → Value} {a0 a : Act} {listed : Array Bool} (h : FrI ops val a0 listed a) {i : Nat} {o : Oper} (ho : ops[i]? = some o) (hd : o.dst = none) (v : Value) : FrI ops val a0 (listed.setIfInBounds i true) (a.put o.dst v) := by
 have hi := h.lt ho
 have hdo : dstOf ops i = none := by unfold dstOf; rw [ho]; exact hd
 rw [hd]
 have e : ∀ d, got ops (listed.setIfInBounds i true) d ↔ got ops listed d := fun d => by
  rw [got_set hi, hdo]; constructor
  ·rintro (h | h); cases h; exact h
  ·exact Or.inr
 exact ⟨by rw [Array.size_setIfInBounds]; exact h.size, h.defers, h.tsize, fun d hd hg => h.yes d hd ((e d).1 hg), fun d hg => h.no d (fun h1 => hg ((e d).2 h1))⟩
theorem FrI.eval {val : Nat → Value} {a0 a : Act} {listed : Array Bool} (h : FrI ops val a0 listed a) {j d : Nat} (hl : listed.getD j false = true) (hd : dstOf ops j = some d) (hs : d < a0.tmps.size) : a.eval (.tmp d) = val d :=
 h.yes d hs ⟨j, hl, hd⟩
theorem FrI.eval0 {val : Nat → Value} {a0 a : Act} {listed : Array Bool} (h : FrI ops val a0 listed a) {d : Nat} (hd : (List.range ops.size).all (fun i => dstOf ops i != some d) = true) : a.eval (.tmp d) = a0.eval (.tmp d) := by
 refine h.no d ?_
 rintro ⟨i, h1, h2⟩
 have hlt : i < ops.size := by
  rcases Nat.lt_or_ge i ops.size with h3 | h3
  ·exact h3
  ·unfold dstOf at h2; rw [Array.getElem?_eq_none h3] at h2; cases h2
 have := List.all_eq_true.1 hd i (List.mem_range.2 hlt)
 rw [h2] at this
 simp at this
theorem FrI.fin {val : Nat → Value} {a0 a : Act} {listed : Array Bool} (h : FrI ops val a0 listed a) (hall : ∀ i, i < ops.size → listed.getD i false = true) :
  a = ⟨((List.range a0.tmps.size).map fun d => if (List.range ops.size).any (fun i => dstOf ops i == some d) then val d else a0.tmps.getD d undef).toArray, a0.defers⟩ := by
 obtain ⟨t, ds⟩ := a
 have h1 := h.defers
 simp only at h1
 subst h1
 congr 1
 apply Array.ext
 ·simp; exact h.tsize
 ·intro d hd1 hd2
  have hd : d < a0.tmps.size := by rw [← h.tsize]; exact hd1
  have e : t[d] = t.getD d undef := by rw [Array.getD_eq_getD_getElem?, Array.getElem?_eq_getElem hd1]; rfl
  rw [e]
  simp only [List.getElem_toArray, List.getElem_map, List.getElem_range]
  by_cases hg : (List.range ops.size).any (fun i => dstOf ops i == some d) = true
  ·rw [if_pos hg]
   obtain ⟨i, hi, h2⟩ := List.any_eq_true.1 hg
   exact h.yes d hd ⟨i, hall i (List.mem_range.1 hi), by simpa using h2⟩
  ·rw [if_neg hg]
   refine h.no d ?_
   rintro ⟨i, _, h2⟩
   apply hg
   rw [List.any_eq_true]
   have hlt : i < ops.size := by
    rcases Nat.lt_or_ge i ops.size with h3 | h3
    ·exact h3
    ·unfold dstOf at h2; rw [Array.getElem?_eq_none h3] at h2; cases h2
   exact ⟨i, List.mem_range.2 hlt, by rw [h2]; simp⟩
end
theorem fields2 {ops : Array Oper} {i : Nat} {o : Oper} {x : Option Tmp} {y : Op} {z : Option (Nat × Bool)} (h : (ops[i]?).map (fun o => (o.dst, o.op, o.guard)) = some (x, y, z)) (ho : ops[i]? = some o) : o.dst = x ∧ o.op = y ∧ o.guard = z := by
 rw [ho] at h
 simp only [Option.map_some, Option.some.injEq, Prod.mk.injEq] at h
 exact h
def waitsB (ops : Array Oper) (i j : Nat) : Bool := ((ops[i]?).map (fun o => o.after.any fun e => decide (e.on = j) && Region.binds .any e)).getD false
theorem waitsB_spec {ops : Array Oper} {i j : Nat} (h : waitsB ops i j = true) : ∃ o, ops[i]? = some o ∧ ∃ e ∈ o.after, Region.binds .any e = true ∧ e.on = j := by
 unfold waitsB at h
 cases ho : ops[i]? with
 | none => rw [ho] at h; cases h
 | some o =>
  rw [ho] at h
  simp only [Option.map_some, Option.getD_some, Array.any_eq_true] at h
  obtain ⟨k, hk, h3⟩ := h
  simp only [Bool.and_eq_true, decide_eq_true_eq] at h3
  exact ⟨o, rfl, o.after[k], Array.getElem_mem hk, h3.2, h3.1⟩
theorem waits2 {ops : Array Oper} {listed : Array Bool} {i j : Nat} {o : Oper} (ho : ops[i]? = some o) (h : waitsB ops i j = true) (h2 : ∀ e ∈ o.after, Region.binds .any e = true → listed.getD e.on false = true) : listed.getD j false = true := by
 obtain ⟨o', ho', e, he, hb, hj⟩ := waitsB_spec h
 rw [ho] at ho'
 injection ho' with ho'
 subst ho'
 rw [← hj]
 exact h2 e he hb
def Clo (ops : Array Oper) (listed : Array Bool) : Prop := ∀ i j, listed.getD i false = true → waitsB ops i j = true → listed.getD j false = true
theorem Clo.set {ops : Array Oper} {listed : Array Bool} {i : Nat} {o : Oper} (h : Clo ops listed) (hi : i < listed.size) (ho : ops[i]? = some o) (h2 : ∀ e ∈ o.after, Region.binds .any e = true → listed.getD e.on false = true) : Clo ops (listed.setIfInBounds i true) := by
 intro k j hk hw
 rw [getF_set hi] at hk ⊢
 by_cases e : k = i
 ·subst e
  rw [waits2 ho hw h2]; simp
 ·rw [decide_eq_false e, Bool.false_or] at hk
  rw [h k j hk hw]; simp
def pathB (ops : Array Oper) : List Nat → Bool
 | [] => true
 | [_] => true
 | i :: j :: l => waitsB ops i j && pathB ops (j :: l)
theorem Clo.path {ops : Array Oper} {listed : Array Bool} (h : Clo ops listed) : ∀ (l : List Nat) (i : Nat), pathB ops (i :: l) = true → listed.getD i false = true → ∀ j ∈ l, listed.getD j false = true
 | [], _, _, _, j, hj => by cases hj
 | k :: l, i, hp, hi, j, hj => by
  simp only [pathB, Bool.and_eq_true] at hp
  have hk := h i k hi hp.1
  rcases List.mem_cons.1 hj with e | e
  ·subst e; exact hk
  ·exact h.path l k hp.2 hk j e
theorem FrI.cong {ops : Array Oper} {val val' : Nat → Value} {a0 a : Act} {listed : Array Bool} (h : FrI ops val a0 listed a) (hv : ∀ d, got ops listed d → val d = val' d) : FrI ops val' a0 listed a :=
 ⟨h.size, h.defers, h.tsize, fun d hd hg => (h.yes d hd hg).trans (hv d hg), h.no⟩
theorem all_ready2 {ops : Array Oper} {md : Region.Mode} {listed : Array Bool} (h : (List.range ops.size).all (fun i => ((ops[i]?).map (fun o => o.after.all fun e => !Region.binds md e || decide (e.on < i))).getD true) = true) (hs : listed.size = ops.size) (hr : Region.ready md ops listed = []) : ∀ i, i < ops.size → listed.getD i false = true := by
 intro i
 induction i using Nat.strongRecOn with
 | _ i ih =>
  intro hi
  cases hl : listed.getD i false with
  | true => rfl
  | false =>
   exfalso
   have hlt : i < listed.size := by rw [hs]; exact hi
   have hl2 : listed.getD i true = false := by
    rw [Array.getD_eq_getD_getElem?, Array.getElem?_eq_getElem hlt] at hl ⊢; exact hl
   have ho : ops[i]? = some ops[i] := Array.getElem?_eq_getElem hi
   have hm : i ∈ Region.ready md ops listed := mem_ready.2 ⟨hl2, ops[i], ho, fun e he hb => by
    have h1 := List.all_eq_true.1 h i (List.mem_range.2 hi)
    rw [ho] at h1
    simp only [Option.map_some, Option.getD_some] at h1
    have h2 := (Array.all_eq_true_iff_forall_mem.1 h1) e he
    rw [hb] at h2
    simp at h2
    exact ih e.on h2 (by omega)⟩
   rw [hr] at hm
   cases hm
def putsL (val : Nat → Value) : List Oper → Act → Act
 | [], a => a
 | o :: l, a => putsL val l (match o.dst with | some d => a.put (some d) (val d) | none => a)
theorem put_get (a : Act) (d d' : Nat) (v : Value) : (a.put (some d) v).tmps.getD d' undef = if d' = d ∧ d < a.tmps.size then v else a.tmps.getD d' undef := by
 show (a.tmps.setIfInBounds d v).getD d' undef = _
 by_cases e : d = d'
 ·subst e
  by_cases hs : d < a.tmps.size
  ·rw [Array.getD_eq_getD_getElem?, Array.getElem?_setIfInBounds_self_of_lt hs, if_pos ⟨rfl, hs⟩]; rfl
  ·rw [if_neg (fun h => hs h.2), Array.setIfInBounds_eq_of_size_le (by omega)]
 ·rw [if_neg (fun h => e h.1.symm), Array.getD_eq_getD_getElem?, Array.getElem?_setIfInBounds_ne e, ← Array.getD_eq_getD_getElem?]
theorem put_size (a : Act) (d : Nat) (v : Value) : (a.put (some d) v).tmps.size = a.tmps.size := by
 show (a.tmps.setIfInBounds d v).size = _
 simp
theorem putsL_facts (val : Nat → Value) : ∀ (l : List Oper) (a : Act), (putsL val l a).defers = a.defers ∧ (putsL val l a).tmps.size = a.tmps.size ∧
  ∀ d, d < a.tmps.size → (putsL val l a).tmps.getD d undef = if l.any (fun o => o.dst == some d) then val d else a.tmps.getD d undef
 | [], a => ⟨rfl, rfl, fun d _ => by simp [putsL]⟩
 | o :: l, a => by
  cases hd : o.dst with
  | none =>
   have e : putsL val (o :: l) a = putsL val l a := by simp only [putsL, hd]
   rw [e]
   obtain ⟨h1, h2, h3⟩ := putsL_facts val l a
   refine ⟨h1, h2, fun d hlt => ?_⟩
   rw [h3 d hlt]
   simp [hd]
  | some t =>
   have e : putsL val (o :: l) a = putsL val l (a.put (some t) (val t)) := by simp only [putsL, hd]
   rw [e]
   obtain ⟨h1, h2, h3⟩ := putsL_facts val l (a.put (some t) (val t))
   refine ⟨h1.trans rfl, h2.trans (put_size a t _), fun d hlt => ?_⟩
   rw [h3 d (by rw [put_size]; exact hlt), put_get]
   by_cases ht : d = t
   ·subst ht
    simp [hd, hlt]
   ·have ht2 : ¬ t = d := fun h => ht h.symm
    simp [hd, ht, ht2]
theorem FrI.puts {ops : Array Oper} {val : Nat → Value} {a0 a : Act} {listed : Array Bool} (h : FrI ops val a0 listed a) (hall : ∀ i, i < ops.size → listed.getD i false = true) : a = putsL val ops.toList a0 := by
 rw [h.fin hall]
 obtain ⟨h1, h2, h3⟩ := putsL_facts val ops.toList a0
 generalize putsL val ops.toList a0 = b at *
 obtain ⟨t, ds⟩ := b
 simp only at h1 h2 h3
 subst h1
 congr 1
 apply Array.ext
 ·simp [h2]
 ·intro d hd1 hd2
  have hd : d < a0.tmps.size := by simpa using hd1
  have e : t[d] = t.getD d undef := by rw [Array.getD_eq_getD_getElem?, Array.getElem?_eq_getElem hd2]; rfl
  rw [e, h3 d hd]
  simp only [List.getElem_toArray, List.getElem_map, List.getElem_range]
  have hcond : (List.range ops.size).any (fun i => dstOf ops i == some d) = ops.toList.any (fun o => o.dst == some d) := by
   rw [Bool.eq_iff_iff, List.any_eq_true, List.any_eq_true]
   constructor
   ·rintro ⟨i, hi, h5⟩
    have hi := List.mem_range.1 hi
    refine ⟨ops[i], by simp, ?_⟩
    unfold dstOf at h5
    rw [Array.getElem?_eq_getElem hi] at h5
    exact h5
   ·rintro ⟨o, ho, h5⟩
    obtain ⟨i, hi, rfl⟩ := List.getElem_of_mem ho
    refine ⟨i, List.mem_range.2 (by simpa using hi), ?_⟩
    unfold dstOf
    rw [Array.getElem?_eq_getElem (by simpa using hi)]
    simpa using h5
  rw [hcond]
def phase (listed : Array Bool) : List Nat → Nat
 | [] => 0
 | i :: l => if listed.getD i false = true then phase listed l + 1 else 0
theorem phase_ne {listed : Array Bool} {i : Nat} (hi : i < listed.size) : ∀ (l : List Nat), i ∉ l → phase (listed.setIfInBounds i true) l = phase listed l
 | [], _ => rfl
 | k :: l, h => by
  have hk : k ≠ i := fun e => h (by rw [e]; exact List.mem_cons_self)
  unfold phase
  rw [getF_set hi, decide_eq_false hk, Bool.false_or, phase_ne hi l (fun e => h (List.mem_cons_of_mem _ e))]
theorem phase_at {listed : Array Bool} : ∀ (l : List Nat) (k : Nat) (i : Nat), l[k]? = some i → listed.getD i false = false → phase listed l ≤ k
 | [], _, _, h, _ => by simp at h
 | j :: l, 0, i, h, hl => by
  simp at h
  subst h
  unfold phase
  rw [hl]
  simp
 | j :: l, k + 1, i, h, hl => by
  have h' : l[k]? = some i := by simpa using h
  have := phase_at l k i h' hl
  unfold phase
  split <;> omega
theorem phase_full {listed : Array Bool} : ∀ (l : List Nat), (∀ i ∈ l, listed.getD i false = true) → phase listed l = l.length
 | [], _ => rfl
 | j :: l, h => by
  unfold phase
  rw [h j List.mem_cons_self, phase_full l (fun i hi => h i (List.mem_cons_of_mem _ hi))]
  simp
theorem phase_eq {listed : Array Bool} : ∀ (l : List Nat) (k : Nat) (i : Nat), l[k]? = some i → listed.getD i false = false → (∀ j, j < k → ∀ x, l[j]? = some x → listed.getD x false = true) → phase listed l = k
 | [], _, _, h, _, _ => by simp at h
 | j :: l, 0, i, h, hl, _ => by
  simp at h
  subst h
  unfold phase
  rw [hl]
  simp
 | j :: l, k + 1, i, h, hl, ha => by
  have h' : l[k]? = some i := by simpa using h
  have hj := ha 0 (by omega) j rfl
  unfold phase
  rw [hj, phase_eq l k i h' hl (fun m hm x hx => ha (m + 1) (by omega) x (by simpa using hx))]
  simp
theorem phase_step {listed : Array Bool} {i : Nat} (hi : i < listed.size) : ∀ (l : List Nat) (k : Nat), l.Nodup → l[k]? = some i → listed.getD i false = false → (∀ j, j < k → ∀ x, l[j]? = some x → listed.getD x false = true) → (∀ j x, k < j → l[j]? = some x → listed.getD x false = false) →
  phase (listed.setIfInBounds i true) l = k + 1
 | [], _, _, h, _, _, _ => by simp at h
 | j :: l, 0, hnd, h, hl, _, hb => by
  simp at h
  subst h
  unfold phase
  rw [getF_set hi]
  have : phase (listed.setIfInBounds j true) l = 0 := by
   rw [phase_ne hi l (List.nodup_cons.1 hnd).1]
   cases l with
   | nil => rfl
   | cons x l =>
    unfold phase
    rw [hb 1 x (by omega) rfl]
    simp
  rw [this]
  simp
 | j :: l, k + 1, hnd, h, hl, ha, hb => by
  have h' : l[k]? = some i := by simpa using h
  have hj := ha 0 (by omega) j rfl
  have := phase_step hi l k (List.nodup_cons.1 hnd).2 h' hl (fun m hm x hx => ha (m + 1) (by omega) x (by simpa using hx)) (fun m x hm hx => hb (m + 1) x (by omega) (by simpa using hx))
  unfold phase
  rw [getF_set hi, hj, this]
  simp
def valG (av : Nat → Option Nat) (val0 : Nat → Value) (γ : Nat → Value) (d : Nat) : Value := match av d with | some k => γ k | none => val0 d
def updG (γ : Nat → Value) (k : Nat) (u : Value) : Nat → Value := fun j => if j = k then u else γ j
section
variable {ops : Array Oper} {acts : List Nat} {av : Nat → Option Nat} {val0 : Nat → Value} {Wd : Nat → (Nat → Value) → World → Prop} {a0 : Act} {Q : PQ}
def InvG (ops : Array Oper) (acts : List Nat) (av : Nat → Option Nat) (val0 : Nat → Value) (Wd : Nat → (Nat → Value) → World → Prop) (a0 : Act) (listed : Array Bool) (a : Act) (w : World) : Prop :=
 ∃ γ, FrI ops (valG av val0 γ) a0 listed a ∧ Clo ops listed ∧ Wd (phase listed acts) γ w
def StepG (ops : Array Oper) (acts : List Nat) (av : Nat → Option Nat) (val0 : Nat → Value) (Wd : Nat → (Nat → Value) → World → Prop) (a0 : Act) (Q : PQ) (i : Nat) : Prop :=
 ∀ γ listed a w o, FrI ops (valG av val0 γ) a0 listed a → Clo ops listed → Wd (phase listed acts) γ w → listed.getD i true = false → ops[i]? = some o → (∀ e ∈ o.after, Region.binds .any e = true → listed.getD e.on false = true) →
  wpOp Try.prog ops Q i (fun a' w' => InvG ops acts av val0 Wd a0 (listed.setIfInBounds i true) a' w') a w
theorem unl {listed : Array Bool} {i : Nat} (hi : i < listed.size) (h1 : listed.getD i true = false) : listed.getD i false = false := by
 rw [Array.getD_eq_getD_getElem?, Array.getElem?_eq_getElem hi] at h1 ⊢; exact h1
theorem st_pureG {γ : Nat → Value} {listed : Array Bool} {a : Act} {w : World} {i d : Nat} {o : Oper} (hF : FrI ops (valG av val0 γ) a0 listed a) (hC : Clo ops listed) (hW : Wd (phase listed acts) γ w) (ho : ops[i]? = some o) (h2 : ∀ e ∈ o.after, Region.binds .any e = true → listed.getD e.on false = true)
  (hna : i ∉ acts) (hd : o.dst = some d) (hg : o.guard = none) (hav : av d = none) (hrun : (execOp a.eval o).run Try.prog w = .ok (.value (val0 d)) w) : wpOp Try.prog ops Q i (fun a' w' => InvG ops acts av val0 Wd a0 (listed.setIfInBounds i true) a' w') a w := by
 have hi := hF.lt ho
 unfold wpOp
 rw [ho]
 have hw : Region.wanted o (yielded ops a.tmps) = true := by unfold Region.wanted; rw [hg]
 simp only [hw, if_true]
 refine Or.inl ?_
 unfold Oper.wp
 rw [hrun]
 have e : valG av val0 γ d = val0 d := by unfold valG; rw [hav]
 refine ⟨γ, ?_, hC.set hi ho h2, by rw [phase_ne hi acts hna]; exact hW⟩
 have := hF.put ho hd
 rw [e] at this
 exact this
theorem st_callG {γ : Nat → Value} {listed : Array Bool} {a : Act} {w : World} {i d : Nat} {o : Oper} {f : FuncId} {args : Array Value} (hF : FrI ops (valG av val0 γ) a0 listed a) (hC : Clo ops listed) (hW : Wd (phase listed acts) γ w) (ho : ops[i]? = some o) (h2 : ∀ e ∈ o.after, Region.binds .any e = true → listed.getD e.on false = true)
  (hna : i ∉ acts) (hd : o.dst = some d) (hg : o.guard = none) (hav : av d = none) (hrun : (execOp a.eval o).run Try.prog w = .ok (.enter f args) w) (hc : Calls Try.prog f args w fun e w' => e = .returned (val0 d) ∧ Kp w w') (hk : ∀ w', Kp w w' → Wd (phase listed acts) γ w') :
  wpOp Try.prog ops Q i (fun a' w' => InvG ops acts av val0 Wd a0 (listed.setIfInBounds i true) a' w') a w := by
 have hi := hF.lt ho
 unfold wpOp
 rw [ho]
 have hw : Region.wanted o (yielded ops a.tmps) = true := by unfold Region.wanted; rw [hg]
 simp only [hw, if_true]
 refine Or.inl ?_
 unfold Oper.wp
 rw [hrun]
 have e : valG av val0 γ d = val0 d := by unfold valG; rw [hav]
 refine Calls.mono hc ?_
 rintro e' w' ⟨rfl, hkk⟩
 refine ⟨γ, ?_, hC.set hi ho h2, by rw [phase_ne hi acts hna]; exact hk w' hkk⟩
 have := hF.put ho hd
 rw [e] at this
 exact this
def chainG (ops : Array Oper) (acts : List Nat) : Bool := (List.range (acts.length - 1)).all fun k => waitsB ops (acts.getD (k + 1) 0) (acts.getD k 0)
theorem chainG_at (h : chainG ops acts = true) {k : Nat} (hk : k + 1 < acts.length) : waitsB ops (acts.getD (k + 1) 0) (acts.getD k 0) = true :=
 List.all_eq_true.1 h k (List.mem_range.2 (by omega))
theorem below_listed {listed : Array Bool} (h : chainG ops acts = true) (hC : Clo ops listed) : ∀ (k : Nat), k < acts.length → listed.getD (acts.getD k 0) false = true → ∀ j, j ≤ k → listed.getD (acts.getD j 0) false = true
 | 0, _, hl, j, hj => by
  have e : j = 0 := by omega
  rw [e]
  exact hl
 | k + 1, hk, hl, j, hj => by
  by_cases e : j = k + 1
  ·subst e; exact hl
  ·exact below_listed h hC k (by omega) (hC _ _ hl (chainG_at h hk)) j (by omega)
theorem st_actG {γ : Nat → Value} {listed : Array Bool} {a : Act} {w : World} {i k : Nat} {o : Oper} (hch : chainG ops acts = true) (hnd : acts.Nodup) (hk : acts[k]? = some i) (hF : FrI ops (valG av val0 γ) a0 listed a) (hC : Clo ops listed) (hW : Wd (phase listed acts) γ w) (h1 : listed.getD i true = false) (ho : ops[i]? = some o) (h2 : ∀ e ∈ o.after, Region.binds .any e = true → listed.getD e.on false = true)
  (hd : (o.dst = none) ∨ ∃ d, o.dst = some d ∧ av d = some k) (hinj : ∀ d, got ops listed d → av d ≠ some k) (hg : o.guard = none)
  (hrun : Wd k γ w → ∀ K : Act → World → Prop, (∀ u w', Wd (k + 1) (updG γ k u) w' → K (a.put o.dst u) w') → o.wp Try.prog a w K Q) :
  wpOp Try.prog ops Q i (fun a' w' => InvG ops acts av val0 Wd a0 (listed.setIfInBounds i true) a' w') a w := by
 have hi := hF.lt ho
 have hu := unl hi h1
 have hkl : k < acts.length := (List.getElem?_eq_some_iff.1 hk).1
 have hgk : acts.getD k 0 = i := by rw [List.getD_eq_getElem?_getD, hk]; rfl
 have hat : ∀ j x, acts[j]? = some x → acts.getD j 0 = x := fun j x hx => by rw [List.getD_eq_getElem?_getD, hx]; rfl
 have hbelow : ∀ j, j < k → ∀ x, acts[j]? = some x → listed.getD x false = true := fun j hj x hx => by
  have hl : listed.getD (acts.getD (k - 1) 0) false = true := by
   have := chainG_at hch (k := k - 1) (by omega)
   rw [show k - 1 + 1 = k by omega, hgk] at this
   exact waits2 ho this h2
  have := below_listed hch hC (k - 1) (by omega) hl j (by omega)
  rw [hat j x hx] at this
  exact this
 have habove : ∀ j x, k < j → acts[j]? = some x → listed.getD x false = false := fun j x hj hx => by
  cases hl : listed.getD x false with
  | false => rfl
  | true =>
   have hjl : j < acts.length := (List.getElem?_eq_some_iff.1 hx).1
   have := below_listed hch hC j hjl (by rw [hat j x hx]; exact hl) k (by omega)
   rw [hgk, hu] at this
   cases this
 have hph : phase listed acts = k := phase_eq acts k i hk hu hbelow
 have hph2 : phase (listed.setIfInBounds i true) acts = k + 1 := phase_step hi acts k hnd hk hu hbelow habove
 rw [hph] at hW
 unfold wpOp
 rw [ho]
 have hw : Region.wanted o (yielded ops a.tmps) = true := by unfold Region.wanted; rw [hg]
 simp only [hw, if_true]
 refine Or.inl (hrun hW _ ?_)
 intro u w' hW'
 have hF2 : FrI ops (valG av val0 (updG γ k u)) a0 listed a := hF.cong (fun d hgd => by
  unfold valG
  cases hav : av d with
  | none => rfl
  | some j =>
   have : j ≠ k := fun e => hinj d hgd (by rw [hav, e])
   simp [updG, this])
 refine ⟨updG γ k u, ?_, hC.set hi ho h2, by rw [hph2]; exact hW'⟩
 rcases hd with hd | ⟨d, hd, hav⟩
 ·exact hF2.skip ho hd u
 ·have := hF2.put ho hd
  have e : valG av val0 (updG γ k u) d = u := by unfold valG; rw [hav]; simp [updG]
  rw [e] at this
  exact this
theorem reg_act {id : Nat} {w : World} (hm : Try.prog.follows .mixedOrders = true) (hup : (List.range ops.size).all (fun i => ((ops[i]?).map (fun o => o.after.all fun e => !Region.binds .any e || decide (e.on < i))).getD true) = true)
  (hac : ∀ i ∈ acts, i < ops.size) (hstep : ∀ i, i < ops.size → StepG ops acts av val0 Wd a0 Q i) (γ0 : Nat → Value) (h0 : Wd 0 γ0 w.drew) (hend : ∀ γ w', Wd acts.length γ w' → Q .normal (putsL (valG av val0 γ) ops.toList a0) w') : (Code.region id ops true).wp Try.prog Q a0 w := by
 refine wp_region_any hm ?_
 refine wpAny_inv (InvG ops acts av val0 Wd a0) (fun listed a w i o hI h1 ho h2 => ?_) (fun listed a w hI hr => ?_) _ _ _ _ ?_ ?_
 ·obtain ⟨γ, hF, hC, hW⟩ := hI
  exact hstep i (Array.getElem?_eq_some_iff.1 ho).1 γ listed a w o hF hC hW h1 ho h2
 ·obtain ⟨γ, hF, hC, hW⟩ := hI
  have hall := all_ready2 hup hF.size hr
  rw [phase_full acts (fun i hi => hall i (hac i hi))] at hW
  rw [hF.puts hall]
  exact hend γ w hW
 ·have hno : ∀ j, (Array.replicate ops.size false).getD j false = false := fun j => by
   rw [Array.getD_eq_getD_getElem?, Array.getElem?_replicate]; split <;> rfl
  refine ⟨γ0, ⟨by simp, rfl, rfl, fun d _ hg => ?_, fun d _ => rfl⟩, fun i j h => ?_, ?_⟩
  ·obtain ⟨i, h1, _⟩ := hg; rw [hno] at h1; cases h1
  ·rw [hno] at h; cases h
  ·have : phase (Array.replicate ops.size false) acts = 0 := by
    cases acts with
    | nil => rfl
    | cons i l => unfold phase; rw [hno]; simp
   rw [this]
   exact h0
 ·unfold left; exact Nat.le_trans (List.length_filter_le _ _) (by simp)
theorem slotG {γ : Nat → Value} {listed : Array Bool} {a : Act} {i j d : Nat} {o : Oper} (hF : FrI ops (valG av val0 γ) a0 listed a) (ho : ops[i]? = some o) (h2 : ∀ e ∈ o.after, Region.binds .any e = true → listed.getD e.on false = true) (hw : waitsB ops i j = true) (hd : dstOf ops j = some d) (hs : d < a0.tmps.size) : a.eval (.tmp d) = valG av val0 γ d :=
 hF.eval (waits2 ho hw h2) hd hs
theorem phase_leG {listed : Array Bool} {i m x : Nat} (hC : Clo ops listed) (hu : listed.getD i false = false) (hm : acts[m]? = some x) (p : List Nat) (hp : pathB ops (x :: p) = true) (hi : i ∈ p) : phase listed acts ≤ m := by
 refine phase_at acts m x hm ?_
 cases hl : listed.getD x false with
 | false => rfl
 | true =>
  have := hC.path p x hp hl i hi
  rw [hu] at this
  cases this
end
section
variable {ops : Array Oper} {acts : List Nat} {av : Nat → Option Nat} {val0 : Nat → Value} {Wd : Nat → (Nat → Value) → World → Prop} {a0 : Act} {Q : PQ}
end
def readsOf : Op → Option (List Operand)
 | .move x => some [x]
 | .assign x => some [x]
 | .nilCheck x => some [x]
 | .pick c a b => some [c, a, b]
 | .build _ ps => some (ps.toList.map (·.2))
 | .load _ a => some [a]
 | .binOp _ _ x y _ => some [x, y]
 | .unOp _ _ x => some [x]
 | .fieldAddr _ x _ => some [x]
 | .indexAddr _ x ix => some [x, ix]
 | .extract t _ => some [t]
 | .call c => match c.callee with
  | .builtin _ => some c.args.toList
  | _ => none
 | _ => none
theorem map_same {α β : Type} {f g : α → β} {l : Array α} (h : ∀ x ∈ l.toList, f x = g x) : l.map f = l.map g := by
 apply Array.ext'
 rw [Array.toList_map, Array.toList_map]
 exact List.map_congr_left h
theorem exec_same {ρ ρ' : Operand → Value} {o : Oper} {l : List Operand} (h : readsOf o.op = some l) (he : ∀ x ∈ l, ρ x = ρ' x) : execOp ρ o = execOp ρ' o := by
 unfold execOp
 cases ho : o.op <;> rw [ho] at h <;> simp only [readsOf, Option.some.injEq, reduceCtorEq] at h
 case build t ps =>
  subst h
  have e : ps.map (fun (p : Nat × Operand) => (p.1, ρ p.2)) = ps.map (fun (p : Nat × Operand) => (p.1, ρ' p.2)) := map_same fun x hx => by rw [he x.2 (List.mem_map.2 ⟨x, hx, rfl⟩)]
  show (do let x ← Instr.build t (ps.map (fun (p : Nat × Operand) => (p.1, ρ p.2))); pure (Next.value x) : Sem Next) = _
  rw [e]
 case call c =>
  cases hc : c.callee <;> rw [hc] at h <;> simp only [Option.some.injEq, reduceCtorEq] at h
  subst h
  have e : c.args.map ρ = c.args.map ρ' := map_same he
  simp only [resolve, hc, e]
 all_goals
  subst h
  simp only [List.mem_cons, List.not_mem_nil, or_false, forall_eq_or_imp, forall_eq] at he
  simp only [he]
def envR (v : Nat → Value) : Operand → Value
 | .tmp n => v n
 | .const c => c
 | .global g => .pointer (some ⟨g, 0, none⟩)
 | .func f => .func (.func f) #[] #[]
def srcB (ops : Array Oper) (av : Nat → Option Nat) (ini : List Nat) (nt i : Nat) : Operand → Bool
 | .tmp n => decide (n < nt) && ((List.range ops.size).any (fun j => waitsB ops i j && decide (dstOf ops j = some n)) || (decide (n ∈ ini) && (av n).isNone && (List.range ops.size).all (fun j => dstOf ops j != some n)))
 | _ => true
def tri (o : Oper) : Option Nat × Op × Option (Nat × Bool) := (o.dst, o.op, o.guard)
section
variable {ops : Array Oper} {acts : List Nat} {av : Nat → Option Nat} {val0 : Nat → Value} {Wd : Nat → (Nat → Value) → World → Prop} {a0 : Act} {Q : PQ} {L : List (Option Nat × Op × Option (Nat × Bool))} {ini : List Nat} {nt : Nat}
theorem fieldsL (hL : ops.toList.map tri = L) {i : Nat} {o : Oper} {x : Option Nat} {y : Op} {z : Option (Nat × Bool)} (h : L[i]? = some (x, y, z)) (ho : ops[i]? = some o) : o.dst = x ∧ o.op = y ∧ o.guard = z := by
 rw [← hL, List.getElem?_map, Array.getElem?_toList, ho] at h
 simp only [Option.map_some, Option.some.injEq, tri, Prod.mk.injEq] at h
 exact h
theorem known {γ : Nat → Value} {listed : Array Bool} {a : Act} {i : Nat} {o : Oper} (hF : FrI ops (valG av val0 γ) a0 listed a) (ho : ops[i]? = some o) (h2 : ∀ e ∈ o.after, Region.binds .any e = true → listed.getD e.on false = true)
  (hI : ∀ n ∈ ini, a0.eval (.tmp n) = val0 n) (hs : a0.tmps.size = nt) {x : Operand} (h : srcB ops av ini nt i x = true) : a.eval x = envR (valG av val0 γ) x := by
 cases x with
 | tmp n =>
  simp only [srcB, Bool.and_eq_true, Bool.or_eq_true, decide_eq_true_eq, List.any_eq_true] at h
  obtain ⟨hn, ⟨j, _, hw, hd⟩ | ⟨⟨hm, hv⟩, hno⟩⟩ := h
  ·exact slotG hF ho h2 hw hd (by rw [hs]; exact hn)
  ·rw [hF.eval0 hno, hI n hm]
   show val0 n = valG av val0 γ n
   unfold valG
   rw [Option.isNone_iff_eq_none.1 hv]
 | const c => rfl
 | global g => rfl
 | func f => rfl
def injK (ops : Array Oper) (av : Nat → Option Nat) (i k : Nat) : Bool := (List.range ops.size).all (fun j => decide (j = i) || !(match dstOf ops j with | some d => decide (av d = some k) | none => false))
theorem injG {listed : Array Bool} {i k : Nat} (h : injK ops av i k = true) (hu : listed.getD i false = false) : ∀ d, got ops listed d → av d ≠ some k := by
 rintro d ⟨j, h1, h2⟩ h3
 have hlt : j < ops.size := by
  rcases Nat.lt_or_ge j ops.size with h4 | h4
  ·exact h4
  ·unfold dstOf at h2; rw [Array.getElem?_eq_none h4] at h2; cases h2
 have h5 := List.all_eq_true.1 h j (List.mem_range.2 hlt)
 rw [h2] at h5
 simp only [h3, decide_true, Bool.not_true, Bool.or_false, decide_eq_true_eq] at h5
 subst h5
 rw [hu] at h1
 cases h1
def plainB (ops : Array Oper) (acts : List Nat) (av : Nat → Option Nat) (ini : List Nat) (nt i d : Nat) (y : Op) : Bool :=
 decide (i ∉ acts) && (av d).isNone && match readsOf y with | some l => l.all (srcB ops av ini nt i) | none => false
theorem plain_run {γ : Nat → Value} {listed : Array Bool} {a : Act} {i d : Nat} {o : Oper} {y : Op} (hF : FrI ops (valG av val0 γ) a0 listed a) (ho : ops[i]? = some o) (h2 : ∀ e ∈ o.after, Region.binds .any e = true → listed.getD e.on false = true)
  (hI : ∀ n ∈ ini, a0.eval (.tmp n) = val0 n) (hs : a0.tmps.size = nt) (hop : o.op = y) (hk : plainB ops acts av ini nt i d y = true) : i ∉ acts ∧ av d = none ∧ execOp a.eval o = execOp (envR (valG av val0 γ)) o := by
 unfold plainB at hk
 simp only [Bool.and_eq_true, decide_eq_true_eq] at hk
 obtain ⟨⟨h3, h4⟩, h5⟩ := hk
 refine ⟨h3, Option.isNone_iff_eq_none.1 h4, ?_⟩
 cases hr : readsOf y with
 | none => rw [hr] at h5; cases h5
 | some l =>
  rw [hr] at h5
  rw [← hop] at hr
  exact exec_same hr fun x hx => known hF ho h2 hI hs (List.all_eq_true.1 h5 x hx)
theorem st_plain (hL : ops.toList.map tri = L) (hI : ∀ n ∈ ini, a0.eval (.tmp n) = val0 n) (hs : a0.tmps.size = nt) {i d : Nat} {y : Op} (hl : L[i]? = some (some d, y, none)) (hk : plainB ops acts av ini nt i d y = true)
  (hx : ∀ γ w n (o : Oper), Wd n γ w → o.op = y → (execOp (envR (valG av val0 γ)) o).run Try.prog w = .ok (.value (val0 d)) w) : StepG ops acts av val0 Wd a0 Q i := by
 intro γ listed a w o hF hC hW h1 ho h2
 obtain ⟨hd, hop, hg⟩ := fieldsL hL hl ho
 obtain ⟨h3, h4, h5⟩ := plain_run hF ho h2 hI hs hop hk
 exact st_pureG hF hC hW ho h2 h3 hd hg h4 (by rw [h5]; exact hx γ w _ o hW hop)
def afterOf (ops : Array Oper) (k : Nat) : List Nat := match ops[k]? with | some o => (o.after.toList.filter (fun e => Region.binds .any e)).map (·.on) | none => []
theorem after_waits {k j : Nat} (h : j ∈ afterOf ops k) : waitsB ops k j = true := by
 unfold afterOf at h
 unfold waitsB
 cases ho : ops[k]? with
 | none => rw [ho] at h; cases h
 | some o =>
  rw [ho] at h
  obtain ⟨e, he, rfl⟩ := List.mem_map.1 h
  obtain ⟨h1, h2⟩ := List.mem_filter.1 he
  show (o.after.any _) = true
  rw [Array.any_eq_true]
  obtain ⟨x, hx, hxe⟩ := List.getElem_of_mem h1
  refine ⟨x, by simpa using hx, ?_⟩
  have e1 : o.after[x]'(by simpa using hx) = e := by simpa using hxe
  rw [e1]
  simp [h2]
def ancs (ops : Array Oper) : Nat → List Nat → List Nat
 | 0, l => l
 | k + 1, l => ancs ops k (if k ∈ l then l ++ afterOf ops k else l)
theorem ancs_listed {listed : Array Bool} (hC : Clo ops listed) : ∀ (k : Nat) (l : List Nat), (∀ j ∈ l, listed.getD j false = true) → ∀ j ∈ ancs ops k l, listed.getD j false = true
 | 0, _, h, j, hj => h j hj
 | k + 1, l, h, j, hj => by
  refine ancs_listed hC k _ ?_ j hj
  intro x hx
  by_cases hk : k ∈ l
  ·rw [if_pos hk] at hx
   rcases List.mem_append.1 hx with h1 | h1
   ·exact h x h1
   ·exact hC k x (h k hk) (after_waits h1)
  ·rw [if_neg hk] at hx
   exact h x hx
def aheadB (ops : Array Oper) (acts : List Nat) (m i : Nat) : Bool := match acts[m]? with | some x => decide (i ∈ ancs ops (x + 1) [x]) | none => false
theorem phase_leM {listed : Array Bool} {i m : Nat} (hC : Clo ops listed) (hu : listed.getD i false = false) (h : aheadB ops acts m i = true) : phase listed acts ≤ m := by
 unfold aheadB at h
 cases hm : acts[m]? with
 | none => rw [hm] at h; cases h
 | some x =>
  rw [hm] at h
  refine phase_at acts m x hm ?_
  cases hl : listed.getD x false with
  | false => rfl
  | true =>
   have := ancs_listed hC (x + 1) [x] (fun j hj => by rw [List.mem_singleton.1 hj]; exact hl) i (of_decide_eq_true h)
   rw [hu] at this
   cases this
theorem st_plainM {m : Nat} (hL : ops.toList.map tri = L) (hI : ∀ n ∈ ini, a0.eval (.tmp n) = val0 n) (hs : a0.tmps.size = nt) {i d : Nat} {y : Op} (hl : L[i]? = some (some d, y, none)) (hk : (aheadB ops acts m i && plainB ops acts av ini nt i d y) = true)
  (hx : ∀ γ w n (o : Oper), n ≤ m → Wd n γ w → o.op = y → (execOp (envR (valG av val0 γ)) o).run Try.prog w = .ok (.value (val0 d)) w) : StepG ops acts av val0 Wd a0 Q i := by
 intro γ listed a w o hF hC hW h1 ho h2
 obtain ⟨hd, hop, hg⟩ := fieldsL hL hl ho
 rw [Bool.and_eq_true] at hk
 obtain ⟨h3, h4, h5⟩ := plain_run hF ho h2 hI hs hop hk.2
 exact st_pureG hF hC hW ho h2 h3 hd hg h4 (by rw [h5]; exact hx γ w _ o (phase_leM hC (unl (hF.lt ho) h1) hk.1) hW hop)
def callB (ops : Array Oper) (acts : List Nat) (av : Nat → Option Nat) (ini : List Nat) (nt i d : Nat) (args : Array Operand) : Bool :=
 decide (i ∉ acts) && (av d).isNone && args.toList.all (srcB ops av ini nt i)
theorem call_run {γ : Nat → Value} {listed : Array Bool} {a : Act} {w : World} {i d : Nat} {o : Oper} {f : FuncId} {args : Array Operand} {ts : Array TypeId} (hF : FrI ops (valG av val0 γ) a0 listed a) (ho : ops[i]? = some o) (h2 : ∀ e ∈ o.after, Region.binds .any e = true → listed.getD e.on false = true)
  (hI : ∀ n ∈ ini, a0.eval (.tmp n) = val0 n) (hs : a0.tmps.size = nt) (hop : o.op = .call { callee := .value (.func f), args := args, argTypes := ts }) (hk : callB ops acts av ini nt i d args = true) (hf : ∀ v w, (callFunc f v).run Try.prog w = .ok (.enter f v) w) :
  i ∉ acts ∧ av d = none ∧ (execOp a.eval o).run Try.prog w = .ok (.enter f (args.toList.map (envR (valG av val0 γ))).toArray) w := by
 unfold callB at hk
 simp only [Bool.and_eq_true, decide_eq_true_eq] at hk
 obtain ⟨⟨h3, h4⟩, h5⟩ := hk
 refine ⟨h3, Option.isNone_iff_eq_none.1 h4, ?_⟩
 have e : args.map a.eval = (args.toList.map (envR (valG av val0 γ))).toArray := by
  apply Array.ext'
  rw [Array.toList_map]
  exact List.map_congr_left fun x hx => known hF ho h2 hI hs (List.all_eq_true.1 h5 x hx)
 rw [← e]
 have ef : a.eval (.func f) = .func (.func f) #[] #[] := rfl
 generalize a.eval = ρ at ef ⊢
 unfold execOp
 rw [hop]
 simp [ef, hf, go_sem]
theorem st_callZ (hL : ops.toList.map tri = L) (hI : ∀ n ∈ ini, a0.eval (.tmp n) = val0 n) (hs : a0.tmps.size = nt) {i d : Nat} {f : FuncId} {args : Array Operand} {ts : Array TypeId} (hl : L[i]? = some (some d, .call { callee := .value (.func f), args := args, argTypes := ts }, none)) (hk : (aheadB ops acts 0 i && callB ops acts av ini nt i d args) = true) (hf : ∀ v w, (callFunc f v).run Try.prog w = .ok (.enter f v) w)
  (hx : ∀ γ w, Wd 0 γ w → Calls Try.prog f (args.toList.map (envR (valG av val0 γ))).toArray w fun e w' => e = .returned (val0 d) ∧ Kp w w') (hp : ∀ γ w w', Wd 0 γ w → Kp w w' → Wd 0 γ w') : StepG ops acts av val0 Wd a0 Q i := by
 intro γ listed a w o hF hC hW h1 ho h2
 obtain ⟨hd, hop, hg⟩ := fieldsL hL hl ho
 rw [Bool.and_eq_true] at hk
 obtain ⟨h3, h4, h5⟩ := call_run (w := w) hF ho h2 hI hs hop hk.2 hf
 have hz : phase listed acts = 0 := Nat.le_zero.1 (phase_leM hC (unl (hF.lt ho) h1) hk.1)
 refine st_callG hF hC hW ho h2 h3 hd hg h4 h5 (hx γ w (by rw [hz] at hW; exact hW)) (fun w' hk' => ?_)
 rw [hz] at hW ⊢
 exact hp γ w w' hW hk'
theorem end_at {a b : Act} {w : World} (h : Q .normal a w) (e : b = a) : Q .normal b w := by rw [e]; exact h
end
theorem rq_at {W w : World} {b o : Nat} {v : Value} (k : Kp W w) (h : W.cell? ⟨b, o, none⟩ = some v) : w.cell? ⟨b, o, none⟩ = some v := (k.cells.1 _ _ (World.block_lt_of_cell? W ⟨b, o, none⟩ h)).trans h
end Go.Proofs.Ytdjemnbdaddegaa
