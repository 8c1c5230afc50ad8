/-
  A region that draws its order, by one condition that every operation keeps: whatever order comes up; each theorem names its conditions.
-/
import Derived.Test.YtnkmdmmlpidcmaaDoorBase
import Derived.Orders
namespace Go.Proofs.YtnkmdmmlpidcmaaDoor
open Go.ChangeShapes Go.WideShapes Go.ChangeAt Go.RowKit
set_option linter.unusedVariables false

/-- The operations of region k of a function. -/
def regOf (k : Nat) : Code → Option (Array Oper)
  | .region id ops _ => if id = k then some ops else none
  | .seq a b => match regOf k a with | some x => some x | none => regOf k b
  | .cond _ t e => match regOf k t with | some x => some x | none => regOf k e
  | .block _ b => regOf k b
  | .loop b => regOf k b
  | .scope b => regOf k b
  | _ => none
def opsOf (k : Nat) (f : Func) : Array Oper := (f.body.bind (regOf k)).getD #[]
theorem reg_change {P : Program} {Q : Exit → Act → World → Prop} {id : Nat} {ops ops' : Array Oper} {b : Bool} {a : Act} {w : World} (h : ops = ops') (hw : (Code.region id ops' b).wp P Q a w) : (Code.region id ops b).wp P Q a w := by rw [h]; exact hw
section
variable {P : Program} {md : Region.Mode} {ops : Array Oper} {Q : Exit → Act → World → Prop}

theorem flt_le {p q : Nat → Bool} (h : ∀ x, q x = true → p x = true) : ∀ l : List Nat, (l.filter q).length ≤ (l.filter p).length
  | [] => Nat.le_refl _
  | y :: l => by
    have ih := flt_le h l
    rw [List.filter_cons, List.filter_cons]
    cases hq : q y with
    | true => rw [h y hq]; simp only [if_true, List.length_cons]; omega
    | false =>
      cases hp : p y with
      | true => simp only [Bool.false_eq_true, if_false, if_true, List.length_cons]; omega
      | false => simp only [Bool.false_eq_true, if_false]; exact ih
theorem flt_lt {p q : Nat → Bool} (h : ∀ x, q x = true → p x = true) (x : Nat) (h1 : p x = true) (h2 : q x = false) : ∀ l : List Nat, x ∈ l → (l.filter q).length < (l.filter p).length
  | y :: l, hx => by
    rw [List.filter_cons, List.filter_cons]
    have le := flt_le h l
    by_cases e : x = y
    · subst e
      rw [h1, h2]
      simp only [Bool.false_eq_true, if_false, if_true, List.length_cons]; omega
    · have ih := flt_lt h x h1 h2 l (by rcases List.mem_cons.1 hx with h | h; exact absurd h e; exact h)
      cases hq : q y with
      | true => rw [h y hq]; simp only [if_true, List.length_cons]; omega
      | false =>
        cases hp : p y with
        | true => simp only [Bool.false_eq_true, if_false, if_true, List.length_cons]; omega
        | false => simp only [Bool.false_eq_true, if_false]; exact ih
/-- How many have not come up. -/
def left (n : Nat) (listed : Array Bool) : Nat := ((List.range n).filter fun i => !listed.getD i true).length
theorem left_set {n i : Nat} {listed : Array Bool} (hn : i < n) (h : listed.getD i true = false) : left n (listed.setIfInBounds i true) < left n listed := by
  have hi : i < listed.size := by
    rcases Nat.lt_or_ge i listed.size with h1 | h1
    · exact h1
    · rw [Array.getD_eq_getD_getElem?, Array.getElem?_eq_none h1] at h; cases h
  refine flt_lt (fun x hx => ?_) i (by rw [h]; rfl) ?_ _ (List.mem_range.2 hn)
  · by_cases e : i = x
    · subst e; rw [Array.getD_eq_getD_getElem?, Array.getElem?_setIfInBounds_self_of_lt hi] at hx; cases hx
    · rw [Array.getD_eq_getD_getElem?, Array.getElem?_setIfInBounds_ne e, ← Array.getD_eq_getD_getElem?] at hx; exact hx
  · rw [Array.getD_eq_getD_getElem?, Array.getElem?_setIfInBounds_self_of_lt hi]; rfl
/-- What every operation keeps holds at the end, whatever order comes up. -/
theorem wpAny_inv (I : Array Bool → Act → World → Prop)
    (hstep : ∀ listed a w i o, I listed a w → listed.getD i true = false → ops[i]? = some o → (∀ e ∈ o.after, Region.binds md e = true → listed.getD e.on false = true) → wpOp P ops Q i (fun a' w' => I (listed.setIfInBounds i true) a' w') a w)
    (hend : ∀ listed a w, I listed a w → Region.ready md ops listed = [] → Q .normal a w) :
    ∀ (fuel : Nat) (listed : Array Bool) (a : Act) (w : World), I listed a w → left ops.size listed ≤ fuel → wpAny P md ops Q fuel listed a w := by
  intro fuel
  induction fuel with
  | zero =>
    intro listed a w hI hl
    have hr : Region.ready md ops listed = [] := by
      rw [List.eq_nil_iff_forall_not_mem]
      intro i hi
      obtain ⟨h1, o, ho, _⟩ := mem_ready.1 hi
      have hlt : i < ops.size := (Array.getElem?_eq_some_iff.1 ho).1
      have := left_set hlt h1
      omega
    exact ⟨hr, hend listed a w hI hr⟩
  | succ fuel ih =>
    intro listed a w hI hl
    refine ⟨fun hr => hend listed a w hI hr, fun i hi => ?_⟩
    obtain ⟨h1, o, ho, h2⟩ := mem_ready.1 hi
    have hlt : i < ops.size := (Array.getElem?_eq_some_iff.1 ho).1
    have := left_set hlt h1
    exact wpOp_mono (fun a' w' h => ih _ a' w' h (by omega)) (hstep listed a w i o hI h1 ho h2)

/-- The slot that operation i fills. -/
def dstOf (ops : Array Oper) (i : Nat) : Option Nat := (ops[i]?).bind (·.dst)
def got (ops : Array Oper) (listed : Array Bool) (d : Nat) : Prop := ∃ i, listed.getD i false = true ∧ dstOf ops i = some d
/-- The frame: a slot that has been filled holds its value, the others what they held. -/
structure FrI (ops : Array Oper) (val : Nat → Value) (a0 : Act) (listed : Array Bool) (a : Act) : Prop where
  size : listed.size = ops.size
  defers : a.defers = a0.defers
  tsize : a.tmps.size = a0.tmps.size
  yes : ∀ d, d < a0.tmps.size → got ops listed d → a.tmps.getD d undef = val d
  no : ∀ d, ¬ got ops listed d → a.tmps.getD d undef = a0.tmps.getD d undef
theorem getF_set {listed : Array Bool} {i j : Nat} (hi : i < listed.size) : (listed.setIfInBounds i true).getD j false = (decide (j = i) || listed.getD j false) := by
  by_cases e : i = j
  · subst e; rw [Array.getD_eq_getD_getElem?, Array.getElem?_setIfInBounds_self_of_lt hi]; simp
  · rw [Array.getD_eq_getD_getElem?, Array.getElem?_setIfInBounds_ne e, ← Array.getD_eq_getD_getElem?, decide_eq_false (fun h => e h.symm)]; rfl
theorem got_set {listed : Array Bool} {i d : Nat} (hi : i < listed.size) : got ops (listed.setIfInBounds i true) d ↔ dstOf ops i = some d ∨ got ops listed d := by
  constructor
  · rintro ⟨j, h1, h2⟩
    rw [getF_set hi] at h1
    by_cases e : j = i
    · subst e; exact Or.inl h2
    · rw [decide_eq_false e] at h1; exact Or.inr ⟨j, h1, h2⟩
  · rintro (h | ⟨j, h1, h2⟩)
    · exact ⟨i, by rw [getF_set hi]; simp, h⟩
    · exact ⟨j, by rw [getF_set hi, h1]; simp, h2⟩
theorem FrI.lt {val : Nat → Value} {a0 a : Act} {listed : Array Bool} (h : FrI ops val a0 listed a) {i : Nat} {o : Oper} (ho : ops[i]? = some o) : i < listed.size := by
  rw [h.size]; exact (Array.getElem?_eq_some_iff.1 ho).1
theorem FrI.put {val : Nat → Value} {a0 a : Act} {listed : Array Bool} (h : FrI ops val a0 listed a) {i d : Nat} {o : Oper} (ho : ops[i]? = some o) (hd : o.dst = some d) : FrI ops val a0 (listed.setIfInBounds i true) (a.put o.dst (val d)) := by
  have hi := h.lt ho
  have hdo : dstOf ops i = some d := by unfold dstOf; rw [ho]; exact hd
  rw [hd]
  have hget : ∀ d', ((a.tmps.setIfInBounds d (val d)).getD d' undef) = if d' = d ∧ d < a.tmps.size then val d else a.tmps.getD d' undef := fun d' => by
    by_cases e : d = d'
    · subst e
      by_cases hs : d < a.tmps.size
      · rw [Array.getD_eq_getD_getElem?, Array.getElem?_setIfInBounds_self_of_lt hs, if_pos ⟨rfl, hs⟩]; rfl
      · rw [if_neg (fun h => hs h.2), Array.setIfInBounds_eq_of_size_le (by omega)]
    · rw [if_neg (fun h => e h.1.symm), Array.getD_eq_getD_getElem?, Array.getElem?_setIfInBounds_ne e, ← Array.getD_eq_getD_getElem?]
  refine ⟨by rw [Array.size_setIfInBounds]; exact h.size, h.defers, by show (a.tmps.setIfInBounds d (val d)).size = _; rw [Array.size_setIfInBounds]; exact h.tsize, fun d' hd' hg => ?_, fun d' hg => ?_⟩
  · show (a.tmps.setIfInBounds d (val d)).getD d' undef = val d'
    rw [hget]
    by_cases e : d' = d
    · subst e; rw [if_pos ⟨rfl, by rw [h.tsize]; exact hd'⟩]
    · rw [if_neg (fun h => e h.1)]
      rcases (got_set hi).1 hg with h1 | h1
      · rw [hdo] at h1; exact absurd (Option.some.inj h1).symm e
      · exact h.yes d' hd' h1
  · show (a.tmps.setIfInBounds d (val d)).getD d' undef = _
    rw [hget, if_neg]
    · exact h.no d' (fun h1 => hg ((got_set hi).2 (Or.inr h1)))
    · rintro ⟨e, _⟩
      exact hg ((got_set hi).2 (Or.inl (by rw [hdo, e])))
theorem FrI.skip {val : Nat → Value} {a0 a : Act} {listed : Array Bool} (h : FrI ops val a0 listed a) {i : Nat} {o : Oper} (ho : ops[i]? = some o) (hd : o.dst = none) (v : Value) : FrI ops val a0 (listed.setIfInBounds i true) (a.put o.dst v) := by
  have hi := h.lt ho
  have hdo : dstOf ops i = none := by unfold dstOf; rw [ho]; exact hd
  rw [hd]
  have e : ∀ d, got ops (listed.setIfInBounds i true) d ↔ got ops listed d := fun d => by
    rw [got_set hi, hdo]; constructor
    · rintro (h | h); cases h; exact h
    · exact Or.inr
  exact ⟨by rw [Array.size_setIfInBounds]; exact h.size, h.defers, h.tsize, fun d hd hg => h.yes d hd ((e d).1 hg), fun d hg => h.no d (fun h1 => hg ((e d).2 h1))⟩
/-- A slot that an operation has filled that this one waits for. -/
theorem FrI.eval {val : Nat → Value} {a0 a : Act} {listed : Array Bool} (h : FrI ops val a0 listed a) {j d : Nat} (hl : listed.getD j false = true) (hd : dstOf ops j = some d) (hs : d < a0.tmps.size) : a.eval (.tmp d) = val d :=
  h.yes d hs ⟨j, hl, hd⟩
/-- A slot that none fills. -/
theorem FrI.eval0 {val : Nat → Value} {a0 a : Act} {listed : Array Bool} (h : FrI ops val a0 listed a) {d : Nat} (hd : (List.range ops.size).all (fun i => dstOf ops i != some d) = true) : a.eval (.tmp d) = a0.eval (.tmp d) := by
  refine h.no d ?_
  rintro ⟨i, h1, h2⟩
  have hlt : i < ops.size := by
    rcases Nat.lt_or_ge i ops.size with h3 | h3
    · exact h3
    · unfold dstOf at h2; rw [Array.getElem?_eq_none h3] at h2; cases h2
  have := List.all_eq_true.1 hd i (List.mem_range.2 hlt)
  rw [h2] at this
  simp at this
/-- All have come up: the frame is known. -/
theorem FrI.fin {val : Nat → Value} {a0 a : Act} {listed : Array Bool} (h : FrI ops val a0 listed a) (hall : ∀ i, i < ops.size → listed.getD i false = true) :
    a = ⟨((List.range a0.tmps.size).map fun d => if (List.range ops.size).any (fun i => dstOf ops i == some d) then val d else a0.tmps.getD d undef).toArray, a0.defers⟩ := by
  obtain ⟨t, ds⟩ := a
  have h1 := h.defers
  simp only at h1
  subst h1
  congr 1
  apply Array.ext
  · simp; exact h.tsize
  · intro d hd1 hd2
    have hd : d < a0.tmps.size := by rw [← h.tsize]; exact hd1
    have e : t[d] = t.getD d undef := by rw [Array.getD_eq_getD_getElem?, Array.getElem?_eq_getElem hd1]; rfl
    rw [e]
    simp only [List.getElem_toArray, List.getElem_map, List.getElem_range]
    by_cases hg : (List.range ops.size).any (fun i => dstOf ops i == some d) = true
    · rw [if_pos hg]
      obtain ⟨i, hi, h2⟩ := List.any_eq_true.1 hg
      exact h.yes d hd ⟨i, hall i (List.mem_range.1 hi), by simpa using h2⟩
    · rw [if_neg hg]
      refine h.no d ?_
      rintro ⟨i, _, h2⟩
      apply hg
      rw [List.any_eq_true]
      have hlt : i < ops.size := by
        rcases Nat.lt_or_ge i ops.size with h3 | h3
        · exact h3
        · unfold dstOf at h2; rw [Array.getElem?_eq_none h3] at h2; cases h2
      exact ⟨i, List.mem_range.2 hlt, by rw [h2]; simp⟩
end
end Go.Proofs.YtnkmdmmlpidcmaaDoor
