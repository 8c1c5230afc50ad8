/-
  A region that draws its order, by one condition that every operation keeps: whatever order comes up; each theorem names its conditions.
  A region that draws its order and holds a row of operations that act on the memory, each waiting for the one ahead: whatever order comes up; each theorem names its conditions.
  A region that draws its order and holds operations that act on the memory, in any order that their waitings allow: a condition told by which of them have come up; each theorem names its conditions.
  Regions that draw their order in which arguments are copied, a function is called with the copies, and its first answer is laid into a variable: what is known of the memory, by which of the operations have come up; each theorem names its conditions.
-/
import Derived.Test.YtfdjjbgcaojcnaaGreatJAA
import Derived.Orders
namespace Go.Proofs.YtfdjjbgcaojcnaaGreat
open Go.ChangeShapes Go.WideShapes Go.ChangeAt Go.RowKit
set_option linter.unusedVariables false

/-- The operations of region k of a function. -/
def regOf (k : Nat) : Code → Option (Array Oper)
  | .region id ops _ => if id = k then some ops else none
  | .seq a b => match regOf k a with | some x => some x | none => regOf k b
  | .cond _ t e => match regOf k t with | some x => some x | none => regOf k e
  | .block _ b => regOf k b
  | .loop b => regOf k b
  | .scope b => regOf k b
  | _ => none
def opsOf (k : Nat) (f : Func) : Array Oper := (f.body.bind (regOf k)).getD #[]
theorem reg_change {P : Program} {Q : Exit → Act → World → Prop} {id : Nat} {ops ops' : Array Oper} {b : Bool} {a : Act} {w : World} (h : ops = ops') (hw : (Code.region id ops' b).wp P Q a w) : (Code.region id ops b).wp P Q a w := by rw [h]; exact hw
section
variable {P : Program} {md : Region.Mode} {ops : Array Oper} {Q : Exit → Act → World → Prop}

theorem flt_le {p q : Nat → Bool} (h : ∀ x, q x = true → p x = true) : ∀ l : List Nat, (l.filter q).length ≤ (l.filter p).length
  | [] => Nat.le_refl _
  | y :: l => by
    have ih := flt_le h l
    rw [List.filter_cons, List.filter_cons]
    cases hq : q y with
    | true => rw [h y hq]; simp only [if_true, List.length_cons]; omega
    | false =>
      cases hp : p y with
      | true => simp only [Bool.false_eq_true, if_false, if_true, List.length_cons]; omega
      | false => simp only [Bool.false_eq_true, if_false]; exact ih
theorem flt_lt {p q : Nat → Bool} (h : ∀ x, q x = true → p x = true) (x : Nat) (h1 : p x = true) (h2 : q x = false) : ∀ l : List Nat, x ∈ l → (l.filter q).length < (l.filter p).length
  | y :: l, hx => by
    rw [List.filter_cons, List.filter_cons]
    have le := flt_le h l
    by_cases e : x = y
    · subst e
      rw [h1, h2]
      simp only [Bool.false_eq_true, if_false, if_true, List.length_cons]; omega
    · have ih := flt_lt h x h1 h2 l (by rcases List.mem_cons.1 hx with h | h; exact absurd h e; exact h)
      cases hq : q y with
      | true => rw [h y hq]; simp only [if_true, List.length_cons]; omega
      | false =>
        cases hp : p y with
        | true => simp only [Bool.false_eq_true, if_false, if_true, List.length_cons]; omega
        | false => simp only [Bool.false_eq_true, if_false]; exact ih
/-- How many have not come up. -/
def left (n : Nat) (listed : Array Bool) : Nat := ((List.range n).filter fun i => !listed.getD i true).length
theorem left_set {n i : Nat} {listed : Array Bool} (hn : i < n) (h : listed.getD i true = false) : left n (listed.setIfInBounds i true) < left n listed := by
  have hi : i < listed.size := by
    rcases Nat.lt_or_ge i listed.size with h1 | h1
    · exact h1
    · rw [Array.getD_eq_getD_getElem?, Array.getElem?_eq_none h1] at h; cases h
  refine flt_lt (fun x hx => ?_) i (by rw [h]; rfl) ?_ _ (List.mem_range.2 hn)
  · by_cases e : i = x
    · subst e; rw [Array.getD_eq_getD_getElem?, Array.getElem?_setIfInBounds_self_of_lt hi] at hx; cases hx
    · rw [Array.getD_eq_getD_getElem?, Array.getElem?_setIfInBounds_ne e, ← Array.getD_eq_getD_getElem?] at hx; exact hx
  · rw [Array.getD_eq_getD_getElem?, Array.getElem?_setIfInBounds_self_of_lt hi]; rfl
/-- What every operation keeps holds at the end, whatever order comes up. -/
theorem wpAny_inv (I : Array Bool → Act → World → Prop)
    (hstep : ∀ listed a w i o, I listed a w → listed.getD i true = false → ops[i]? = some o → (∀ e ∈ o.after, Region.binds md e = true → listed.getD e.on false = true) → wpOp P ops Q i (fun a' w' => I (listed.setIfInBounds i true) a' w') a w)
    (hend : ∀ listed a w, I listed a w → Region.ready md ops listed = [] → Q .normal a w) :
    ∀ (fuel : Nat) (listed : Array Bool) (a : Act) (w : World), I listed a w → left ops.size listed ≤ fuel → wpAny P md ops Q fuel listed a w := by
  intro fuel
  induction fuel with
  | zero =>
    intro listed a w hI hl
    have hr : Region.ready md ops listed = [] := by
      rw [List.eq_nil_iff_forall_not_mem]
      intro i hi
      obtain ⟨h1, o, ho, _⟩ := mem_ready.1 hi
      have hlt : i < ops.size := (Array.getElem?_eq_some_iff.1 ho).1
      have := left_set hlt h1
      omega
    exact ⟨hr, hend listed a w hI hr⟩
  | succ fuel ih =>
    intro listed a w hI hl
    refine ⟨fun hr => hend listed a w hI hr, fun i hi => ?_⟩
    obtain ⟨h1, o, ho, h2⟩ := mem_ready.1 hi
    have hlt : i < ops.size := (Array.getElem?_eq_some_iff.1 ho).1
    have := left_set hlt h1
    exact wpOp_mono (fun a' w' h => ih _ a' w' h (by omega)) (hstep listed a w i o hI h1 ho h2)

/-- The slot that operation i fills. -/
def dstOf (ops : Array Oper) (i : Nat) : Option Nat := (ops[i]?).bind (·.dst)
def got (ops : Array Oper) (listed : Array Bool) (d : Nat) : Prop := ∃ i, listed.getD i false = true ∧ dstOf ops i = some d
/-- The frame: a slot that has been filled holds its value, the others what they held. -/
structure FrI (ops : Array Oper) (val : Nat → Value) (a0 : Act) (listed : Array Bool) (a : Act) : Prop where
  size : listed.size = ops.size
  defers : a.defers = a0.defers
  tsize : a.tmps.size = a0.tmps.size
  yes : ∀ d, d < a0.tmps.size → got ops listed d → a.tmps.getD d undef = val d
  no : ∀ d, ¬ got ops listed d → a.tmps.getD d undef = a0.tmps.getD d undef
theorem getF_set {listed : Array Bool} {i j : Nat} (hi : i < listed.size) : (listed.setIfInBounds i true).getD j false = (decide (j = i) || listed.getD j false) := by
  by_cases e : i = j
  · subst e; rw [Array.getD_eq_getD_getElem?, Array.getElem?_setIfInBounds_self_of_lt hi]; simp
  · rw [Array.getD_eq_getD_getElem?, Array.getElem?_setIfInBounds_ne e, ← Array.getD_eq_getD_getElem?, decide_eq_false (fun h => e h.symm)]; rfl
theorem got_set {listed : Array Bool} {i d : Nat} (hi : i < listed.size) : got ops (listed.setIfInBounds i true) d ↔ dstOf ops i = some d ∨ got ops listed d := by
  constructor
  · rintro ⟨j, h1, h2⟩
    rw [getF_set hi] at h1
    by_cases e : j = i
    · subst e; exact Or.inl h2
    · rw [decide_eq_false e] at h1; exact Or.inr ⟨j, h1, h2⟩
  · rintro (h | ⟨j, h1, h2⟩)
    · exact ⟨i, by rw [getF_set hi]; simp, h⟩
    · exact ⟨j, by rw [getF_set hi, h1]; simp, h2⟩
theorem FrI.lt {val : Nat → Value} {a0 a : Act} {listed : Array Bool} (h : FrI ops val a0 listed a) {i : Nat} {o : Oper} (ho : ops[i]? = some o) : i < listed.size := by
  rw [h.size]; exact (Array.getElem?_eq_some_iff.1 ho).1
theorem FrI.put {val : Nat → Value} {a0 a : Act} {listed : Array Bool} (h : FrI ops val a0 listed a) {i d : Nat} {o : Oper} (ho : ops[i]? = some o) (hd : o.dst = some d) : FrI ops val a0 (listed.setIfInBounds i true) (a.put o.dst (val d)) := by
  have hi := h.lt ho
  have hdo : dstOf ops i = some d := by unfold dstOf; rw [ho]; exact hd
  rw [hd]
  have hget : ∀ d', ((a.tmps.setIfInBounds d (val d)).getD d' undef) = if d' = d ∧ d < a.tmps.size then val d else a.tmps.getD d' undef := fun d' => by
    by_cases e : d = d'
    · subst e
      by_cases hs : d < a.tmps.size
      · rw [Array.getD_eq_getD_getElem?, Array.getElem?_setIfInBounds_self_of_lt hs, if_pos ⟨rfl, hs⟩]; rfl
      · rw [if_neg (fun h => hs h.2), Array.setIfInBounds_eq_of_size_le (by omega)]
    · rw [if_neg (fun h => e h.1.symm), Array.getD_eq_getD_getElem?, Array.getElem?_setIfInBounds_ne e, ← Array.getD_eq_getD_getElem?]
  refine ⟨by rw [Array.size_setIfInBounds]; exact h.size, h.defers, by show (a.tmps.setIfInBounds d (val d)).size = _; rw [Array.size_setIfInBounds]; exact h.tsize, fun d' hd' hg => ?_, fun d' hg => ?_⟩
  · show (a.tmps.setIfInBounds d (val d)).getD d' undef = val d'
    rw [hget]
    by_cases e : d' = d
    · subst e; rw [if_pos ⟨rfl, by rw [h.tsize]; exact hd'⟩]
    · rw [if_neg (fun h => e h.1)]
      rcases (got_set hi).1 hg with h1 | h1
      · rw [hdo] at h1; exact absurd (Option.some.inj h1).symm e
      · exact h.yes d' hd' h1
  · show (a.tmps.setIfInBounds d (val d)).getD d' undef = _
    rw [hget, if_neg]
    · exact h.no d' (fun h1 => hg ((got_set hi).2 (Or.inr h1)))
    · rintro ⟨e, _⟩
      exact hg ((got_set hi).2 (Or.inl (by rw [hdo, e])))
theorem FrI.skip {val : Nat → Value} {a0 a : Act} {listed : Array Bool} (h : FrI ops val a0 listed a) {i : Nat} {o : Oper} (ho : ops[i]? = some o) (hd : o.dst = none) (v : Value) : FrI ops val a0 (listed.setIfInBounds i true) (a.put o.dst v) := by
  have hi := h.lt ho
  have hdo : dstOf ops i = none := by unfold dstOf; rw [ho]; exact hd
  rw [hd]
  have e : ∀ d, got ops (listed.setIfInBounds i true) d ↔ got ops listed d := fun d => by
    rw [got_set hi, hdo]; constructor
    · rintro (h | h); cases h; exact h
    · exact Or.inr
  exact ⟨by rw [Array.size_setIfInBounds]; exact h.size, h.defers, h.tsize, fun d hd hg => h.yes d hd ((e d).1 hg), fun d hg => h.no d (fun h1 => hg ((e d).2 h1))⟩
/-- A slot that an operation has filled that this one waits for. -/
theorem FrI.eval {val : Nat → Value} {a0 a : Act} {listed : Array Bool} (h : FrI ops val a0 listed a) {j d : Nat} (hl : listed.getD j false = true) (hd : dstOf ops j = some d) (hs : d < a0.tmps.size) : a.eval (.tmp d) = val d :=
  h.yes d hs ⟨j, hl, hd⟩
/-- A slot that none fills. -/
theorem FrI.eval0 {val : Nat → Value} {a0 a : Act} {listed : Array Bool} (h : FrI ops val a0 listed a) {d : Nat} (hd : (List.range ops.size).all (fun i => dstOf ops i != some d) = true) : a.eval (.tmp d) = a0.eval (.tmp d) := by
  refine h.no d ?_
  rintro ⟨i, h1, h2⟩
  have hlt : i < ops.size := by
    rcases Nat.lt_or_ge i ops.size with h3 | h3
    · exact h3
    · unfold dstOf at h2; rw [Array.getElem?_eq_none h3] at h2; cases h2
  have := List.all_eq_true.1 hd i (List.mem_range.2 hlt)
  rw [h2] at this
  simp at this
/-- All have come up: the frame is known. -/
theorem FrI.fin {val : Nat → Value} {a0 a : Act} {listed : Array Bool} (h : FrI ops val a0 listed a) (hall : ∀ i, i < ops.size → listed.getD i false = true) :
    a = ⟨((List.range a0.tmps.size).map fun d => if (List.range ops.size).any (fun i => dstOf ops i == some d) then val d else a0.tmps.getD d undef).toArray, a0.defers⟩ := by
  obtain ⟨t, ds⟩ := a
  have h1 := h.defers
  simp only at h1
  subst h1
  congr 1
  apply Array.ext
  · simp; exact h.tsize
  · intro d hd1 hd2
    have hd : d < a0.tmps.size := by rw [← h.tsize]; exact hd1
    have e : t[d] = t.getD d undef := by rw [Array.getD_eq_getD_getElem?, Array.getElem?_eq_getElem hd1]; rfl
    rw [e]
    simp only [List.getElem_toArray, List.getElem_map, List.getElem_range]
    by_cases hg : (List.range ops.size).any (fun i => dstOf ops i == some d) = true
    · rw [if_pos hg]
      obtain ⟨i, hi, h2⟩ := List.any_eq_true.1 hg
      exact h.yes d hd ⟨i, hall i (List.mem_range.1 hi), by simpa using h2⟩
    · rw [if_neg hg]
      refine h.no d ?_
      rintro ⟨i, _, h2⟩
      apply hg
      rw [List.any_eq_true]
      have hlt : i < ops.size := by
        rcases Nat.lt_or_ge i ops.size with h3 | h3
        · exact h3
        · unfold dstOf at h2; rw [Array.getElem?_eq_none h3] at h2; cases h2
      exact ⟨i, List.mem_range.2 hlt, by rw [h2]; simp⟩
end
end Go.Proofs.YtfdjjbgcaojcnaaGreat
namespace Go.Proofs.YtfdjjbgcaojcnaaGreat
open Go.ChangeShapes Go.WideShapes Go.ChangeAt Go.RowKit
set_option linter.unusedVariables false

theorem fields2 {ops : Array Oper} {i : Nat} {o : Oper} {x : Option Tmp} {y : Op} {z : Option (Nat × Bool)} (h : (ops[i]?).map (fun o => (o.dst, o.op, o.guard)) = some (x, y, z)) (ho : ops[i]? = some o) : o.dst = x ∧ o.op = y ∧ o.guard = z := by
  rw [ho] at h
  simp only [Option.map_some, Option.some.injEq, Prod.mk.injEq] at h
  exact h
/-- Operation i waits for operation j. -/
def waitsB (ops : Array Oper) (i j : Nat) : Bool := ((ops[i]?).map (fun o => o.after.any fun e => decide (e.on = j) && Region.binds .any e)).getD false
theorem waitsB_spec {ops : Array Oper} {i j : Nat} (h : waitsB ops i j = true) : ∃ o, ops[i]? = some o ∧ ∃ e ∈ o.after, Region.binds .any e = true ∧ e.on = j := by
  unfold waitsB at h
  cases ho : ops[i]? with
  | none => rw [ho] at h; cases h
  | some o =>
    rw [ho] at h
    simp only [Option.map_some, Option.getD_some, Array.any_eq_true] at h
    obtain ⟨k, hk, h3⟩ := h
    simp only [Bool.and_eq_true, decide_eq_true_eq] at h3
    exact ⟨o, rfl, o.after[k], Array.getElem_mem hk, h3.2, h3.1⟩
theorem waits2 {ops : Array Oper} {listed : Array Bool} {i j : Nat} {o : Oper} (ho : ops[i]? = some o) (h : waitsB ops i j = true) (h2 : ∀ e ∈ o.after, Region.binds .any e = true → listed.getD e.on false = true) : listed.getD j false = true := by
  obtain ⟨o', ho', e, he, hb, hj⟩ := waitsB_spec h
  rw [ho] at ho'
  injection ho' with ho'
  subst ho'
  rw [← hj]
  exact h2 e he hb
/-- What has come up has not come up ahead of what it waits for. -/
def Clo (ops : Array Oper) (listed : Array Bool) : Prop := ∀ i j, listed.getD i false = true → waitsB ops i j = true → listed.getD j false = true
theorem Clo.set {ops : Array Oper} {listed : Array Bool} {i : Nat} {o : Oper} (h : Clo ops listed) (hi : i < listed.size) (ho : ops[i]? = some o) (h2 : ∀ e ∈ o.after, Region.binds .any e = true → listed.getD e.on false = true) : Clo ops (listed.setIfInBounds i true) := by
  intro k j hk hw
  rw [getF_set hi] at hk ⊢
  by_cases e : k = i
  · subst e
    rw [waits2 ho hw h2]; simp
  · rw [decide_eq_false e, Bool.false_or] at hk
    rw [h k j hk hw]; simp
/-- A way of waitings. -/
def pathB (ops : Array Oper) : List Nat → Bool
  | [] => true
  | [_] => true
  | i :: j :: l => waitsB ops i j && pathB ops (j :: l)
theorem Clo.path {ops : Array Oper} {listed : Array Bool} (h : Clo ops listed) : ∀ (l : List Nat) (i : Nat), pathB ops (i :: l) = true → listed.getD i false = true → ∀ j ∈ l, listed.getD j false = true
  | [], _, _, _, j, hj => by cases hj
  | k :: l, i, hp, hi, j, hj => by
    simp only [pathB, Bool.and_eq_true] at hp
    have hk := h i k hi hp.1
    rcases List.mem_cons.1 hj with e | e
    · subst e; exact hk
    · exact h.path l k hp.2 hk j e
theorem FrI.cong {ops : Array Oper} {val val' : Nat → Value} {a0 a : Act} {listed : Array Bool} (h : FrI ops val a0 listed a) (hv : ∀ d, got ops listed d → val d = val' d) : FrI ops val' a0 listed a :=
  ⟨h.size, h.defers, h.tsize, fun d hd hg => (h.yes d hd hg).trans (hv d hg), h.no⟩
theorem all_ready2 {ops : Array Oper} {md : Region.Mode} {listed : Array Bool} (h : (List.range ops.size).all (fun i => ((ops[i]?).map (fun o => o.after.all fun e => !Region.binds md e || decide (e.on < i))).getD true) = true) (hs : listed.size = ops.size) (hr : Region.ready md ops listed = []) : ∀ i, i < ops.size → listed.getD i false = true := by
  intro i
  induction i using Nat.strongRecOn with
  | _ i ih =>
    intro hi
    cases hl : listed.getD i false with
    | true => rfl
    | false =>
      exfalso
      have hlt : i < listed.size := by rw [hs]; exact hi
      have hl2 : listed.getD i true = false := by
        rw [Array.getD_eq_getD_getElem?, Array.getElem?_eq_getElem hlt] at hl ⊢; exact hl
      have ho : ops[i]? = some ops[i] := Array.getElem?_eq_getElem hi
      have hm : i ∈ Region.ready md ops listed := mem_ready.2 ⟨hl2, ops[i], ho, fun e he hb => by
        have h1 := List.all_eq_true.1 h i (List.mem_range.2 hi)
        rw [ho] at h1
        simp only [Option.map_some, Option.getD_some] at h1
        have h2 := (Array.all_eq_true_iff_forall_mem.1 h1) e he
        rw [hb] at h2
        simp at h2
        exact ih e.on h2 (by omega)⟩
      rw [hr] at hm
      cases hm
/-- The values, laid one behind the other. -/
def putsL (val : Nat → Value) : List Oper → Act → Act
  | [], a => a
  | o :: l, a => putsL val l (match o.dst with | some d => a.put (some d) (val d) | none => a)
theorem put_get (a : Act) (d d' : Nat) (v : Value) : (a.put (some d) v).tmps.getD d' undef = if d' = d ∧ d < a.tmps.size then v else a.tmps.getD d' undef := by
  show (a.tmps.setIfInBounds d v).getD d' undef = _
  by_cases e : d = d'
  · subst e
    by_cases hs : d < a.tmps.size
    · rw [Array.getD_eq_getD_getElem?, Array.getElem?_setIfInBounds_self_of_lt hs, if_pos ⟨rfl, hs⟩]; rfl
    · rw [if_neg (fun h => hs h.2), Array.setIfInBounds_eq_of_size_le (by omega)]
  · rw [if_neg (fun h => e h.1.symm), Array.getD_eq_getD_getElem?, Array.getElem?_setIfInBounds_ne e, ← Array.getD_eq_getD_getElem?]
theorem put_size (a : Act) (d : Nat) (v : Value) : (a.put (some d) v).tmps.size = a.tmps.size := by
  show (a.tmps.setIfInBounds d v).size = _
  simp
theorem putsL_facts (val : Nat → Value) : ∀ (l : List Oper) (a : Act), (putsL val l a).defers = a.defers ∧ (putsL val l a).tmps.size = a.tmps.size ∧
    ∀ d, d < a.tmps.size → (putsL val l a).tmps.getD d undef = if l.any (fun o => o.dst == some d) then val d else a.tmps.getD d undef
  | [], a => ⟨rfl, rfl, fun d _ => by simp [putsL]⟩
  | o :: l, a => by
    cases hd : o.dst with
    | none =>
      have e : putsL val (o :: l) a = putsL val l a := by simp only [putsL, hd]
      rw [e]
      obtain ⟨h1, h2, h3⟩ := putsL_facts val l a
      refine ⟨h1, h2, fun d hlt => ?_⟩
      rw [h3 d hlt]
      simp [hd]
    | some t =>
      have e : putsL val (o :: l) a = putsL val l (a.put (some t) (val t)) := by simp only [putsL, hd]
      rw [e]
      obtain ⟨h1, h2, h3⟩ := putsL_facts val l (a.put (some t) (val t))
      refine ⟨h1.trans rfl, h2.trans (put_size a t _), fun d hlt => ?_⟩
      rw [h3 d (by rw [put_size]; exact hlt), put_get]
      by_cases ht : d = t
      · subst ht
        simp [hd, hlt]
      · have ht2 : ¬ t = d := fun h => ht h.symm
        simp [hd, ht, ht2]
theorem FrI.puts {ops : Array Oper} {val : Nat → Value} {a0 a : Act} {listed : Array Bool} (h : FrI ops val a0 listed a) (hall : ∀ i, i < ops.size → listed.getD i false = true) : a = putsL val ops.toList a0 := by
  rw [h.fin hall]
  obtain ⟨h1, h2, h3⟩ := putsL_facts val ops.toList a0
  generalize putsL val ops.toList a0 = b at *
  obtain ⟨t, ds⟩ := b
  simp only at h1 h2 h3
  subst h1
  congr 1
  apply Array.ext
  · simp [h2]
  · intro d hd1 hd2
    have hd : d < a0.tmps.size := by simpa using hd1
    have e : t[d] = t.getD d undef := by rw [Array.getD_eq_getD_getElem?, Array.getElem?_eq_getElem hd2]; rfl
    rw [e, h3 d hd]
    simp only [List.getElem_toArray, List.getElem_map, List.getElem_range]
    have hcond : (List.range ops.size).any (fun i => dstOf ops i == some d) = ops.toList.any (fun o => o.dst == some d) := by
      rw [Bool.eq_iff_iff, List.any_eq_true, List.any_eq_true]
      constructor
      · rintro ⟨i, hi, h5⟩
        have hi := List.mem_range.1 hi
        refine ⟨ops[i], by simp, ?_⟩
        unfold dstOf at h5
        rw [Array.getElem?_eq_getElem hi] at h5
        exact h5
      · rintro ⟨o, ho, h5⟩
        obtain ⟨i, hi, rfl⟩ := List.getElem_of_mem ho
        refine ⟨i, List.mem_range.2 (by simpa using hi), ?_⟩
        unfold dstOf
        rw [Array.getElem?_eq_getElem (by simpa using hi)]
        simpa using h5
    rw [hcond]

/-! ### The acting operations, one behind the other -/
/-- How many of the acting ones have come up. -/
def phase (listed : Array Bool) : List Nat → Nat
  | [] => 0
  | i :: l => if listed.getD i false = true then phase listed l + 1 else 0
theorem phase_ne {listed : Array Bool} {i : Nat} (hi : i < listed.size) : ∀ (l : List Nat), i ∉ l → phase (listed.setIfInBounds i true) l = phase listed l
  | [], _ => rfl
  | k :: l, h => by
    have hk : k ≠ i := fun e => h (by rw [e]; exact List.mem_cons_self)
    unfold phase
    rw [getF_set hi, decide_eq_false hk, Bool.false_or, phase_ne hi l (fun e => h (List.mem_cons_of_mem _ e))]
/-- At a place of the row: how many have come up. -/
theorem phase_at {listed : Array Bool} : ∀ (l : List Nat) (k : Nat) (i : Nat), l[k]? = some i → listed.getD i false = false → phase listed l ≤ k
  | [], _, _, h, _ => by simp at h
  | j :: l, 0, i, h, hl => by
    simp at h
    subst h
    unfold phase
    rw [hl]
    simp
  | j :: l, k + 1, i, h, hl => by
    have h' : l[k]? = some i := by simpa using h
    have := phase_at l k i h' hl
    unfold phase
    split <;> omega
theorem phase_full {listed : Array Bool} : ∀ (l : List Nat), (∀ i ∈ l, listed.getD i false = true) → phase listed l = l.length
  | [], _ => rfl
  | j :: l, h => by
    unfold phase
    rw [h j List.mem_cons_self, phase_full l (fun i hi => h i (List.mem_cons_of_mem _ hi))]
    simp
/-- The acting operation number k comes up when those ahead have. -/
theorem phase_eq {listed : Array Bool} : ∀ (l : List Nat) (k : Nat) (i : Nat), l[k]? = some i → listed.getD i false = false → (∀ j, j < k → ∀ x, l[j]? = some x → listed.getD x false = true) → phase listed l = k
  | [], _, _, h, _, _ => by simp at h
  | j :: l, 0, i, h, hl, _ => by
    simp at h
    subst h
    unfold phase
    rw [hl]
    simp
  | j :: l, k + 1, i, h, hl, ha => by
    have h' : l[k]? = some i := by simpa using h
    have hj := ha 0 (by omega) j rfl
    unfold phase
    rw [hj, phase_eq l k i h' hl (fun m hm x hx => ha (m + 1) (by omega) x (by simpa using hx))]
    simp
theorem phase_step {listed : Array Bool} {i : Nat} (hi : i < listed.size) : ∀ (l : List Nat) (k : Nat), l.Nodup → l[k]? = some i → listed.getD i false = false → (∀ j, j < k → ∀ x, l[j]? = some x → listed.getD x false = true) → (∀ j x, k < j → l[j]? = some x → listed.getD x false = false) →
    phase (listed.setIfInBounds i true) l = k + 1
  | [], _, _, h, _, _, _ => by simp at h
  | j :: l, 0, hnd, h, hl, _, hb => by
    simp at h
    subst h
    unfold phase
    rw [getF_set hi]
    have : phase (listed.setIfInBounds j true) l = 0 := by
      rw [phase_ne hi l (List.nodup_cons.1 hnd).1]
      cases l with
      | nil => rfl
      | cons x l =>
        unfold phase
        rw [hb 1 x (by omega) rfl]
        simp
    rw [this]
    simp
  | j :: l, k + 1, hnd, h, hl, ha, hb => by
    have h' : l[k]? = some i := by simpa using h
    have hj := ha 0 (by omega) j rfl
    have := phase_step hi l k (List.nodup_cons.1 hnd).2 h' hl (fun m hm x hx => ha (m + 1) (by omega) x (by simpa using hx)) (fun m x hm hx => hb (m + 1) x (by omega) (by simpa using hx))
    unfold phase
    rw [getF_set hi, hj, this]
    simp
/-- The values: those of the acting ones are letters. -/
def valG (av : Nat → Option Nat) (val0 : Nat → Value) (γ : Nat → Value) (d : Nat) : Value := match av d with | some k => γ k | none => val0 d
def updG (γ : Nat → Value) (k : Nat) (u : Value) : Nat → Value := fun j => if j = k then u else γ j
section
variable {ops : Array Oper} {acts : List Nat} {av : Nat → Option Nat} {val0 : Nat → Value} {Wd : Nat → (Nat → Value) → World → Prop} {a0 : Act} {Q : Exit → Act → World → Prop}
/-- What every operation keeps. -/
def InvG (ops : Array Oper) (acts : List Nat) (av : Nat → Option Nat) (val0 : Nat → Value) (Wd : Nat → (Nat → Value) → World → Prop) (a0 : Act) (listed : Array Bool) (a : Act) (w : World) : Prop :=
  ∃ γ, FrI ops (valG av val0 γ) a0 listed a ∧ Clo ops listed ∧ Wd (phase listed acts) γ w
/-- What is asked of operation i. -/
def StepG (ops : Array Oper) (acts : List Nat) (av : Nat → Option Nat) (val0 : Nat → Value) (Wd : Nat → (Nat → Value) → World → Prop) (a0 : Act) (Q : Exit → Act → World → Prop) (i : Nat) : Prop :=
  ∀ γ listed a w o, FrI ops (valG av val0 γ) a0 listed a → Clo ops listed → Wd (phase listed acts) γ w → listed.getD i true = false → ops[i]? = some o → (∀ e ∈ o.after, Region.binds .any e = true → listed.getD e.on false = true) →
    wpOp Tryz.prog ops Q i (fun a' w' => InvG ops acts av val0 Wd a0 (listed.setIfInBounds i true) a' w') a w
theorem unl {listed : Array Bool} {i : Nat} (hi : i < listed.size) (h1 : listed.getD i true = false) : listed.getD i false = false := by
  rw [Array.getD_eq_getD_getElem?, Array.getElem?_eq_getElem hi] at h1 ⊢; exact h1
/-- An operation that leaves the world alone. -/
theorem st_pureG {γ : Nat → Value} {listed : Array Bool} {a : Act} {w : World} {i d : Nat} {o : Oper} (hF : FrI ops (valG av val0 γ) a0 listed a) (hC : Clo ops listed) (hW : Wd (phase listed acts) γ w) (ho : ops[i]? = some o) (h2 : ∀ e ∈ o.after, Region.binds .any e = true → listed.getD e.on false = true)
    (hna : i ∉ acts) (hd : o.dst = some d) (hg : o.guard = none) (hav : av d = none) (hrun : (execOp a.eval o).run Tryz.prog w = .ok (.value (val0 d)) w) : wpOp Tryz.prog ops Q i (fun a' w' => InvG ops acts av val0 Wd a0 (listed.setIfInBounds i true) a' w') a w := by
  have hi := hF.lt ho
  unfold wpOp
  rw [ho]
  have hw : Region.wanted o (yielded ops a.tmps) = true := by unfold Region.wanted; rw [hg]
  simp only [hw, if_true]
  refine Or.inl ?_
  unfold Oper.wp
  rw [hrun]
  have e : valG av val0 γ d = val0 d := by unfold valG; rw [hav]
  refine ⟨γ, ?_, hC.set hi ho h2, by rw [phase_ne hi acts hna]; exact hW⟩
  have := hF.put ho hd
  rw [e] at this
  exact this
/-- A call that makes memory at most. -/
theorem st_callG {γ : Nat → Value} {listed : Array Bool} {a : Act} {w : World} {i d : Nat} {o : Oper} {f : FuncId} {args : Array Value} (hF : FrI ops (valG av val0 γ) a0 listed a) (hC : Clo ops listed) (hW : Wd (phase listed acts) γ w) (ho : ops[i]? = some o) (h2 : ∀ e ∈ o.after, Region.binds .any e = true → listed.getD e.on false = true)
    (hna : i ∉ acts) (hd : o.dst = some d) (hg : o.guard = none) (hav : av d = none) (hrun : (execOp a.eval o).run Tryz.prog w = .ok (.enter f args) w) (hc : Calls Tryz.prog f args w fun e w' => e = .returned (val0 d) ∧ Kp w w') (hk : ∀ w', Kp w w' → Wd (phase listed acts) γ w') :
    wpOp Tryz.prog ops Q i (fun a' w' => InvG ops acts av val0 Wd a0 (listed.setIfInBounds i true) a' w') a w := by
  have hi := hF.lt ho
  unfold wpOp
  rw [ho]
  have hw : Region.wanted o (yielded ops a.tmps) = true := by unfold Region.wanted; rw [hg]
  simp only [hw, if_true]
  refine Or.inl ?_
  unfold Oper.wp
  rw [hrun]
  have e : valG av val0 γ d = val0 d := by unfold valG; rw [hav]
  refine Calls.mono hc ?_
  rintro e' w' ⟨rfl, hkk⟩
  refine ⟨γ, ?_, hC.set hi ho h2, by rw [phase_ne hi acts hna]; exact hk w' hkk⟩
  have := hF.put ho hd
  rw [e] at this
  exact this
/-- Each acting one waits for the one ahead. -/
def chainG (ops : Array Oper) (acts : List Nat) : Bool := (List.range (acts.length - 1)).all fun k => waitsB ops (acts.getD (k + 1) 0) (acts.getD k 0)
theorem chainG_at (h : chainG ops acts = true) {k : Nat} (hk : k + 1 < acts.length) : waitsB ops (acts.getD (k + 1) 0) (acts.getD k 0) = true :=
  List.all_eq_true.1 h k (List.mem_range.2 (by omega))
theorem below_listed {listed : Array Bool} (h : chainG ops acts = true) (hC : Clo ops listed) : ∀ (k : Nat), k < acts.length → listed.getD (acts.getD k 0) false = true → ∀ j, j ≤ k → listed.getD (acts.getD j 0) false = true
  | 0, _, hl, j, hj => by
    have e : j = 0 := by omega
    rw [e]
    exact hl
  | k + 1, hk, hl, j, hj => by
    by_cases e : j = k + 1
    · subst e; exact hl
    · exact below_listed h hC k (by omega) (hC _ _ hl (chainG_at h hk)) j (by omega)
/-- The acting operation number k. -/
theorem st_actG {γ : Nat → Value} {listed : Array Bool} {a : Act} {w : World} {i k : Nat} {o : Oper} (hch : chainG ops acts = true) (hnd : acts.Nodup) (hk : acts[k]? = some i) (hF : FrI ops (valG av val0 γ) a0 listed a) (hC : Clo ops listed) (hW : Wd (phase listed acts) γ w) (h1 : listed.getD i true = false) (ho : ops[i]? = some o) (h2 : ∀ e ∈ o.after, Region.binds .any e = true → listed.getD e.on false = true)
    (hd : (o.dst = none) ∨ ∃ d, o.dst = some d ∧ av d = some k) (hinj : ∀ d, got ops listed d → av d ≠ some k) (hg : o.guard = none)
    (hrun : Wd k γ w → ∀ K : Act → World → Prop, (∀ u w', Wd (k + 1) (updG γ k u) w' → K (a.put o.dst u) w') → o.wp Tryz.prog a w K Q) :
    wpOp Tryz.prog ops Q i (fun a' w' => InvG ops acts av val0 Wd a0 (listed.setIfInBounds i true) a' w') a w := by
  have hi := hF.lt ho
  have hu := unl hi h1
  have hkl : k < acts.length := (List.getElem?_eq_some_iff.1 hk).1
  have hgk : acts.getD k 0 = i := by rw [List.getD_eq_getElem?_getD, hk]; rfl
  have hat : ∀ j x, acts[j]? = some x → acts.getD j 0 = x := fun j x hx => by rw [List.getD_eq_getElem?_getD, hx]; rfl
  have hbelow : ∀ j, j < k → ∀ x, acts[j]? = some x → listed.getD x false = true := fun j hj x hx => by
    have hl : listed.getD (acts.getD (k - 1) 0) false = true := by
      have := chainG_at hch (k := k - 1) (by omega)
      rw [show k - 1 + 1 = k by omega, hgk] at this
      exact waits2 ho this h2
    have := below_listed hch hC (k - 1) (by omega) hl j (by omega)
    rw [hat j x hx] at this
    exact this
  have habove : ∀ j x, k < j → acts[j]? = some x → listed.getD x false = false := fun j x hj hx => by
    cases hl : listed.getD x false with
    | false => rfl
    | true =>
      have hjl : j < acts.length := (List.getElem?_eq_some_iff.1 hx).1
      have := below_listed hch hC j hjl (by rw [hat j x hx]; exact hl) k (by omega)
      rw [hgk, hu] at this
      cases this
  have hph : phase listed acts = k := phase_eq acts k i hk hu hbelow
  have hph2 : phase (listed.setIfInBounds i true) acts = k + 1 := phase_step hi acts k hnd hk hu hbelow habove
  rw [hph] at hW
  unfold wpOp
  rw [ho]
  have hw : Region.wanted o (yielded ops a.tmps) = true := by unfold Region.wanted; rw [hg]
  simp only [hw, if_true]
  refine Or.inl (hrun hW _ ?_)
  intro u w' hW'
  have hF2 : FrI ops (valG av val0 (updG γ k u)) a0 listed a := hF.cong (fun d hgd => by
    unfold valG
    cases hav : av d with
    | none => rfl
    | some j =>
      have : j ≠ k := fun e => hinj d hgd (by rw [hav, e])
      simp [updG, this])
  refine ⟨updG γ k u, ?_, hC.set hi ho h2, by rw [hph2]; exact hW'⟩
  rcases hd with hd | ⟨d, hd, hav⟩
  · exact hF2.skip ho hd u
  · have := hF2.put ho hd
    have e : valG av val0 (updG γ k u) d = u := by unfold valG; rw [hav]; simp [updG]
    rw [e] at this
    exact this
/-- The region, whatever order comes up. -/
theorem reg_act {id : Nat} {w : World} (hm : Tryz.prog.follows .mixedOrders = true) (hup : (List.range ops.size).all (fun i => ((ops[i]?).map (fun o => o.after.all fun e => !Region.binds .any e || decide (e.on < i))).getD true) = true)
    (hac : ∀ i ∈ acts, i < ops.size) (hstep : ∀ i, i < ops.size → StepG ops acts av val0 Wd a0 Q i) (γ0 : Nat → Value) (h0 : Wd 0 γ0 w.drew) (hend : ∀ γ w', Wd acts.length γ w' → Q .normal (putsL (valG av val0 γ) ops.toList a0) w') : (Code.region id ops true).wp Tryz.prog Q a0 w := by
  refine wp_region_any hm ?_
  refine wpAny_inv (InvG ops acts av val0 Wd a0) (fun listed a w i o hI h1 ho h2 => ?_) (fun listed a w hI hr => ?_) _ _ _ _ ?_ ?_
  · obtain ⟨γ, hF, hC, hW⟩ := hI
    exact hstep i (Array.getElem?_eq_some_iff.1 ho).1 γ listed a w o hF hC hW h1 ho h2
  · obtain ⟨γ, hF, hC, hW⟩ := hI
    have hall := all_ready2 hup hF.size hr
    rw [phase_full acts (fun i hi => hall i (hac i hi))] at hW
    rw [hF.puts hall]
    exact hend γ w hW
  · have hno : ∀ j, (Array.replicate ops.size false).getD j false = false := fun j => by
      rw [Array.getD_eq_getD_getElem?, Array.getElem?_replicate]; split <;> rfl
    refine ⟨γ0, ⟨by simp, rfl, rfl, fun d _ hg => ?_, fun d _ => rfl⟩, fun i j h => ?_, ?_⟩
    · obtain ⟨i, h1, _⟩ := hg; rw [hno] at h1; cases h1
    · rw [hno] at h; cases h
    · have : phase (Array.replicate ops.size false) acts = 0 := by
        cases acts with
        | nil => rfl
        | cons i l => unfold phase; rw [hno]; simp
      rw [this]
      exact h0
  · unfold left; exact Nat.le_trans (List.length_filter_le _ _) (by simp)
/-- A slot that an operation has filled that this one waits for. -/
theorem slotG {γ : Nat → Value} {listed : Array Bool} {a : Act} {i j d : Nat} {o : Oper} (hF : FrI ops (valG av val0 γ) a0 listed a) (ho : ops[i]? = some o) (h2 : ∀ e ∈ o.after, Region.binds .any e = true → listed.getD e.on false = true) (hw : waitsB ops i j = true) (hd : dstOf ops j = some d) (hs : d < a0.tmps.size) : a.eval (.tmp d) = valG av val0 γ d :=
  hF.eval (waits2 ho hw h2) hd hs
/-- An operation that comes up ahead of the acting one number m. -/
theorem phase_leG {listed : Array Bool} {i m x : Nat} (hC : Clo ops listed) (hu : listed.getD i false = false) (hm : acts[m]? = some x) (p : List Nat) (hp : pathB ops (x :: p) = true) (hi : i ∈ p) : phase listed acts ≤ m := by
  refine phase_at acts m x hm ?_
  cases hl : listed.getD x false with
  | false => rfl
  | true =>
    have := hC.path p x hp hl i hi
    rw [hu] at this
    cases this
end
end Go.Proofs.YtfdjjbgcaojcnaaGreat
namespace Go.Proofs.YtfdjjbgcaojcnaaGreat
open Go.ChangeShapes Go.WideShapes Go.ChangeAt Go.RowKit
set_option linter.unusedVariables false

theorem nodup_at : ∀ (l : List Nat) (j k i : Nat), l.Nodup → l[j]? = some i → l[k]? = some i → j = k
  | [], _, _, _, _, h, _ => by simp at h
  | x :: l, 0, 0, _, _, _, _ => rfl
  | x :: l, 0, k + 1, i, hnd, h1, h2 => by
    simp at h1 h2
    subst h1
    exact absurd (List.mem_of_getElem? h2) (List.nodup_cons.1 hnd).1
  | x :: l, j + 1, 0, i, hnd, h1, h2 => by
    simp at h1 h2
    subst h2
    exact absurd (List.mem_of_getElem? h1) (List.nodup_cons.1 hnd).1
  | x :: l, j + 1, k + 1, i, hnd, h1, h2 => by
    simp at h1 h2
    rw [nodup_at l j k i (List.nodup_cons.1 hnd).2 h1 h2]
/-- Which of the acting ones have come up. -/
def upOf (listed : Array Bool) (acts : List Nat) (k : Nat) : Bool := match acts[k]? with | some i => listed.getD i false | none => false
def upS (S : Nat → Bool) (k : Nat) : Nat → Bool := fun j => if j = k then true else S j
theorem upOf_ne {listed : Array Bool} {acts : List Nat} {i : Nat} (hi : i < listed.size) (h : i ∉ acts) : upOf (listed.setIfInBounds i true) acts = upOf listed acts := by
  funext k
  unfold upOf
  cases e : acts[k]? with
  | none => rfl
  | some j =>
    have hj : j ≠ i := fun e2 => h (by rw [← e2]; exact List.mem_of_getElem? e)
    simp only
    rw [getF_set hi, decide_eq_false hj, Bool.false_or]
theorem upOf_set {listed : Array Bool} {acts : List Nat} {i k : Nat} (hi : i < listed.size) (hk : acts[k]? = some i) (hnd : acts.Nodup) : upOf (listed.setIfInBounds i true) acts = upS (upOf listed acts) k := by
  funext j
  unfold upOf upS
  by_cases e : j = k
  · subst e
    rw [hk, if_pos rfl]
    simp only
    rw [getF_set hi]; simp
  · rw [if_neg e]
    cases e2 : acts[j]? with
    | none => simp only [e2]
    | some x =>
      have hx : x ≠ i := fun e3 => e (nodup_at acts j k i hnd (by rw [← e3]; exact e2) hk)
      simp only [e2]
      rw [getF_set hi, decide_eq_false hx, Bool.false_or]
/-- The values: some hang on what an acting one answered. -/
def valH (av : Nat → Option Nat) (ext : Nat → Value → Value) (val0 : Nat → Value) (γ : Nat → Value) (d : Nat) : Value := match av d with | some k => ext d (γ k) | none => val0 d
section
variable {ops : Array Oper} {acts : List Nat} {av : Nat → Option Nat} {ext : Nat → Value → Value} {val0 : Nat → Value} {Wd : (Nat → Bool) → (Nat → Value) → World → Prop} {a0 : Act} {Q : Exit → Act → World → Prop}
def InvH (ops : Array Oper) (acts : List Nat) (av : Nat → Option Nat) (ext : Nat → Value → Value) (val0 : Nat → Value) (Wd : (Nat → Bool) → (Nat → Value) → World → Prop) (a0 : Act) (listed : Array Bool) (a : Act) (w : World) : Prop :=
  ∃ γ, FrI ops (valH av ext val0 γ) a0 listed a ∧ Clo ops listed ∧ Wd (upOf listed acts) γ w
def StepH (ops : Array Oper) (acts : List Nat) (av : Nat → Option Nat) (ext : Nat → Value → Value) (val0 : Nat → Value) (Wd : (Nat → Bool) → (Nat → Value) → World → Prop) (a0 : Act) (Q : Exit → Act → World → Prop) (i : Nat) : Prop :=
  ∀ γ listed a w o, FrI ops (valH av ext val0 γ) a0 listed a → Clo ops listed → Wd (upOf listed acts) γ w → listed.getD i true = false → ops[i]? = some o → (∀ e ∈ o.after, Region.binds .any e = true → listed.getD e.on false = true) →
    wpOp Tryz.prog ops Q i (fun a' w' => InvH ops acts av ext val0 Wd a0 (listed.setIfInBounds i true) a' w') a w
/-- An operation that leaves the world alone. -/
theorem st_pureH {γ : Nat → Value} {listed : Array Bool} {a : Act} {w : World} {i d : Nat} {o : Oper} (hF : FrI ops (valH av ext val0 γ) a0 listed a) (hC : Clo ops listed) (hW : Wd (upOf listed acts) γ w) (ho : ops[i]? = some o) (h2 : ∀ e ∈ o.after, Region.binds .any e = true → listed.getD e.on false = true)
    (hna : i ∉ acts) (hd : o.dst = some d) (hg : o.guard = none) (hrun : (execOp a.eval o).run Tryz.prog w = .ok (.value (valH av ext val0 γ d)) w) : wpOp Tryz.prog ops Q i (fun a' w' => InvH ops acts av ext val0 Wd a0 (listed.setIfInBounds i true) a' w') a w := by
  have hi := hF.lt ho
  unfold wpOp
  rw [ho]
  have hw : Region.wanted o (yielded ops a.tmps) = true := by unfold Region.wanted; rw [hg]
  simp only [hw, if_true]
  refine Or.inl ?_
  unfold Oper.wp
  rw [hrun]
  exact ⟨γ, hF.put ho hd, hC.set hi ho h2, by rw [upOf_ne hi hna]; exact hW⟩
/-- A slot that an operation has filled that this one waits for. -/
theorem slotH {γ : Nat → Value} {listed : Array Bool} {a : Act} {i j d : Nat} {o : Oper} (hF : FrI ops (valH av ext val0 γ) a0 listed a) (ho : ops[i]? = some o) (h2 : ∀ e ∈ o.after, Region.binds .any e = true → listed.getD e.on false = true) (hw : waitsB ops i j = true) (hd : dstOf ops j = some d) (hs : d < a0.tmps.size) : a.eval (.tmp d) = valH av ext val0 γ d :=
  hF.eval (waits2 ho hw h2) hd hs
/-- Only operation i, and what comes behind it, fills slots that hang on letter k. -/
def injB (ops : Array Oper) (av : Nat → Option Nat) (i k : Nat) (ps : List (List Nat)) : Bool :=
  (List.range ops.size).all fun j => decide (j = i) || !(match dstOf ops j with | some d => decide (av d = some k) | none => false) || ps.any fun p => decide (p.head? = some j) && (p.contains i && pathB ops p)
theorem inj_of {listed : Array Bool} {i k : Nat} {ps : List (List Nat)} (h : injB ops av i k ps = true) (hC : Clo ops listed) (hu : listed.getD i false = false) : ∀ d, got ops listed d → av d ≠ some k := by
  rintro d ⟨j, h1, h2⟩ h3
  have hlt : j < ops.size := by
    rcases Nat.lt_or_ge j ops.size with h4 | h4
    · exact h4
    · unfold dstOf at h2; rw [Array.getElem?_eq_none h4] at h2; cases h2
  have h5 := List.all_eq_true.1 h j (List.mem_range.2 hlt)
  rw [h2] at h5
  simp only [h3, decide_true, Bool.not_true, Bool.or_false, Bool.or_eq_true, decide_eq_true_eq, List.any_eq_true, Bool.and_eq_true] at h5
  rcases h5 with h5 | ⟨p, hp, h6, h7, h8⟩
  · subst h5; rw [hu] at h1; cases h1
  · cases p with
    | nil => cases h6
    | cons x p =>
      simp only [List.head?_cons, Option.some.injEq] at h6
      subst h6
      have hmem : i ∈ x :: p := by simpa using h7
      rcases List.mem_cons.1 hmem with e | e
      · rw [e, h1] at hu; cases hu
      · have := hC.path p x h8 h1 i e
        rw [hu] at this; cases this
/-- The acting operation number k. -/
theorem st_actH {γ : Nat → Value} {listed : Array Bool} {a : Act} {w : World} {i k : Nat} {o : Oper} {ps : List (List Nat)} (hnd : acts.Nodup) (hk : acts[k]? = some i) (hij : injB ops av i k ps = true) (hF : FrI ops (valH av ext val0 γ) a0 listed a) (hC : Clo ops listed) (h1 : listed.getD i true = false) (ho : ops[i]? = some o) (h2 : ∀ e ∈ o.after, Region.binds .any e = true → listed.getD e.on false = true)
    (hd : (o.dst = none) ∨ ∃ d, o.dst = some d ∧ av d = some k ∧ ∀ u, ext d u = u) (hg : o.guard = none)
    (hrun : ∀ K : Act → World → Prop, (∀ u w', Wd (upS (upOf listed acts) k) (updG γ k u) w' → K (a.put o.dst u) w') → o.wp Tryz.prog a w K Q) :
    wpOp Tryz.prog ops Q i (fun a' w' => InvH ops acts av ext val0 Wd a0 (listed.setIfInBounds i true) a' w') a w := by
  have hi := hF.lt ho
  have hu := unl hi h1
  have hinj := inj_of hij hC hu
  unfold wpOp
  rw [ho]
  have hw : Region.wanted o (yielded ops a.tmps) = true := by unfold Region.wanted; rw [hg]
  simp only [hw, if_true]
  refine Or.inl (hrun _ ?_)
  intro u w' hW'
  have hF2 : FrI ops (valH av ext val0 (updG γ k u)) a0 listed a := hF.cong (fun d hgd => by
    unfold valH
    cases hav : av d with
    | none => rfl
    | some j =>
      have : j ≠ k := fun e => hinj d hgd (by rw [hav, e])
      simp [updG, this])
  refine ⟨updG γ k u, ?_, hC.set hi ho h2, by rw [upOf_set hi hk hnd]; exact hW'⟩
  rcases hd with hd | ⟨d, hd, hav, hex⟩
  · exact hF2.skip ho hd u
  · have := hF2.put ho hd
    have e : valH av ext val0 (updG γ k u) d = u := by unfold valH; rw [hav]; simp [updG, hex]
    rw [e] at this
    exact this
/-- One that this one waits for has come up. -/
theorem up_yes {listed : Array Bool} {i k j : Nat} {o : Oper} (hC : Clo ops listed) (ho : ops[i]? = some o) (h2 : ∀ e ∈ o.after, Region.binds .any e = true → listed.getD e.on false = true) (hk : acts[k]? = some j) (p : List Nat) (hp : pathB ops (i :: p) = true) (hj : j ∈ p) : upOf listed acts k = true := by
  unfold upOf
  rw [hk]
  simp only
  cases p with
  | nil => cases hj
  | cons x p =>
    simp only [pathB, Bool.and_eq_true] at hp
    have hx := waits2 ho hp.1 h2
    rcases List.mem_cons.1 hj with e | e
    · subst e; exact hx
    · exact hC.path p x hp.2 hx j e
theorem up_self {listed : Array Bool} {i k : Nat} (hk : acts[k]? = some i) (hu : listed.getD i false = false) : upOf listed acts k = false := by
  unfold upOf
  rw [hk]
  exact hu
/-- One that waits for this one has not. -/
theorem up_no {listed : Array Bool} {i k x : Nat} (hC : Clo ops listed) (hu : listed.getD i false = false) (hk : acts[k]? = some x) (p : List Nat) (hp : pathB ops (x :: p) = true) (hi : i ∈ p) : upOf listed acts k = false := by
  unfold upOf
  rw [hk]
  simp only
  cases hl : listed.getD x false with
  | false => rfl
  | true =>
    have := hC.path p x hp hl i hi
    rw [hu] at this
    cases this
/-- The region, whatever order comes up. -/
theorem reg_actH {id : Nat} {w : World} (hm : Tryz.prog.follows .mixedOrders = true) (hup : (List.range ops.size).all (fun i => ((ops[i]?).map (fun o => o.after.all fun e => !Region.binds .any e || decide (e.on < i))).getD true) = true)
    (hac : ∀ i ∈ acts, i < ops.size) (hstep : ∀ i, i < ops.size → StepH ops acts av ext val0 Wd a0 Q i) (γ0 : Nat → Value) (h0 : Wd (fun _ => false) γ0 w.drew) (hend : ∀ S γ w', (∀ k, k < acts.length → S k = true) → Wd S γ w' → Q .normal (putsL (valH av ext val0 γ) ops.toList a0) w') : (Code.region id ops true).wp Tryz.prog Q a0 w := by
  refine wp_region_any hm ?_
  refine wpAny_inv (InvH ops acts av ext val0 Wd a0) (fun listed a w i o hI h1 ho h2 => ?_) (fun listed a w hI hr => ?_) _ _ _ _ ?_ ?_
  · obtain ⟨γ, hF, hC, hW⟩ := hI
    exact hstep i (Array.getElem?_eq_some_iff.1 ho).1 γ listed a w o hF hC hW h1 ho h2
  · obtain ⟨γ, hF, hC, hW⟩ := hI
    have hall := all_ready2 hup hF.size hr
    rw [hF.puts hall]
    refine hend _ γ w (fun k hk => ?_) hW
    unfold upOf
    rw [List.getElem?_eq_getElem hk]
    exact hall _ (hac _ (List.getElem_mem hk))
  · have hno : ∀ j, (Array.replicate ops.size false).getD j false = false := fun j => by
      rw [Array.getD_eq_getD_getElem?, Array.getElem?_replicate]; split <;> rfl
    refine ⟨γ0, ⟨by simp, rfl, rfl, fun d _ hg => ?_, fun d _ => rfl⟩, fun i j h => ?_, ?_⟩
    · obtain ⟨i, h1, _⟩ := hg; rw [hno] at h1; cases h1
    · rw [hno] at h; cases h
    · have : upOf (Array.replicate ops.size false) acts = fun _ => false := by
        funext k
        unfold upOf
        cases acts[k]? with
        | none => rfl
        | some i => exact hno i
      rw [this]
      exact h0
  · unfold left; exact Nat.le_trans (List.length_filter_le _ _) (by simp)
end
end Go.Proofs.YtfdjjbgcaojcnaaGreat
namespace Go.Proofs.YtfdjjbgcaojcnaaGreat
open Go.ChangeShapes Go.WideShapes Go.ChangeAt Go.RowKit
set_option linter.unusedVariables false

/-- A part of an answer of several. -/
def tupAt (u : Value) (j : Nat) : Value := match u with | .tuple xs => xs.getD j undef | _ => undef
theorem tupAt_0 (r b : Value) : tupAt (.tuple #[r, b]) 0 = r := rfl
theorem tupAt_1 (r b : Value) : tupAt (.tuple #[r, b]) 1 = b := rfl
/-- nc copies, of which the i-th says C i; an answer that says R (behind the bound, in a world); a variable of n cells. -/
structure RcX where
  nc : Nat
  n : Nat
  W : World
  C : Nat → World → Value → Prop
  R : Nat → World → Value → Value → Prop
structure RcX.Ok (X : RcX) : Prop where
  cnw : ∀ i w w' u, X.C i w u → Nw w w' → X.C i w' u
  rnw : ∀ B w w' r b, X.R B w r b → Nw w w' → X.R B w' r b
  far : ∀ B w r b bx o u, X.R B w r b → bx < B → X.R B (w.setCell ⟨bx, o, none⟩ u) r b
  cells : ∀ B w r b, X.R B w r b → r.cells.size = X.n
structure RcX.Wd (X : RcX) (S : Nat → Bool) (γ : Nat → Value) (w : World) : Prop where
  nw : Nw X.W w
  cp : ∀ i, i < X.nc → S i = true → S X.nc = false → X.C i w (γ i)
  ans : S X.nc = true → ∃ r b B w0, γ X.nc = .tuple #[r, b] ∧ X.W.heap.size ≤ B ∧ X.R B w0 r b ∧ Nw w0 w ∧ ∀ bx, S (X.nc + 1) = true → γ (X.nc + 1) = .pointer (some ⟨bx, 0, none⟩) → bx < B ∨ w0.heap.size ≤ bx
  box : S (X.nc + 1) = true → ∃ bx, γ (X.nc + 1) = .pointer (some ⟨bx, 0, none⟩) ∧ X.W.heap.size ≤ bx ∧ bx < w.heap.size ∧ (∀ j, j < X.n → ∃ u, w.cell? ⟨bx, j, none⟩ = some u) ∧ ∀ o, w.frozen? ⟨bx, o, none⟩ = false
  put : S (X.nc + 1 + 1) = true → ∃ bx r b, γ (X.nc + 1) = .pointer (some ⟨bx, 0, none⟩) ∧ γ X.nc = .tuple #[r, b] ∧ bx < w.heap.size ∧ ∀ j, j < X.n → w.cell? ⟨bx, j, none⟩ = r.cells[j]?
theorem RcX.Wd.start (X : RcX) (γ : Nat → Value) (w : World) (h : Nw X.W w) : X.Wd (fun _ => false) γ w :=
  ⟨h, fun _ _ h _ => (by cases h), fun h => (by cases h), fun h => (by cases h), fun h => (by cases h)⟩
theorem upS_ne {S : Nat → Bool} {k j : Nat} (h : j ≠ k) : upS S k j = S j := by unfold upS; rw [if_neg h]
theorem upS_at (S : Nat → Bool) (k : Nat) : upS S k k = true := by unfold upS; rw [if_pos rfl]
theorem updG_ne {γ : Nat → Value} {k j : Nat} {u : Value} (h : j ≠ k) : updG γ k u j = γ j := by unfold updG; rw [if_neg h]
theorem updG_at (γ : Nat → Value) (k : Nat) (u : Value) : updG γ k u k = u := by unfold updG; rw [if_pos rfl]
/-- A call that makes memory at most leaves all as it is. -/
theorem RcX.Wd.keep {X : RcX} (ok : X.Ok) {S : Nat → Bool} {γ : Nat → Value} {w w' : World} (h : X.Wd S γ w) (k : Nw w w') : X.Wd S γ w' := by
  refine ⟨Nw.trans h.nw k, fun i hi hs hm => ok.cnw i _ _ _ (h.cp i hi hs hm) k, fun hs => ?_, fun hs => ?_, fun hs => ?_⟩
  · obtain ⟨r, b, B, w0, h1, h2, h3, h4, h5⟩ := h.ans hs
    exact ⟨r, b, B, w0, h1, h2, h3, Nw.trans h4 k, h5⟩
  · obtain ⟨bx, h1, h2, h3, h4, h5⟩ := h.box hs
    refine ⟨bx, h1, h2, Nat.lt_of_lt_of_le h3 (Below.size k), fun j hj => ?_, fun o => ((bcell k).2 _ _ h3).trans (h5 o)⟩
    obtain ⟨u, hu⟩ := h4 j hj
    exact ⟨u, ((bcell k).1 _ _ h3).trans hu⟩
  · obtain ⟨bx, r, b, h1, h2, h3, h4⟩ := h.put hs
    exact ⟨bx, r, b, h1, h2, Nat.lt_of_lt_of_le h3 (Below.size k), fun j hj => ((bcell k).1 _ _ h3).trans (h4 j hj)⟩
theorem RcX.Wd.copy {X : RcX} (ok : X.Ok) {S : Nat → Bool} {γ : Nat → Value} {w w' : World} (h : X.Wd S γ w) (k : Nw w w') {i : Nat} (hi : i < X.nc) {u : Value} (hc : X.C i w' u) : X.Wd (upS S i) (updG γ i u) w' := by
  have h' := h.keep ok k
  refine ⟨h'.nw, fun j hj hs hm => ?_, ?_, ?_, ?_⟩
  · rw [upS_ne (by omega)] at hm
    by_cases e : j = i
    · subst e; rw [updG_at]; exact hc
    · rw [upS_ne e] at hs; rw [updG_ne e]; exact h'.cp j hj hs hm
  · rw [upS_ne (by omega), upS_ne (by omega), updG_ne (by omega), updG_ne (by omega)]; exact h'.ans
  · rw [upS_ne (by omega), updG_ne (by omega)]; exact h'.box
  · rw [upS_ne (by omega), updG_ne (by omega), updG_ne (by omega)]; exact h'.put
theorem RcX.Wd.main {X : RcX} (ok : X.Ok) {S : Nat → Bool} {γ : Nat → Value} {w w' : World} (h : X.Wd S γ w) (k : Nw w w') (hno : S (X.nc + 1 + 1) = false) {r b : Value} (hr : X.R w.heap.size w' r b) : X.Wd (upS S X.nc) (updG γ X.nc (.tuple #[r, b])) w' := by
  have h' := h.keep ok k
  refine ⟨h'.nw, fun j hj hs hm => ?_, fun _ => ?_, ?_, ?_⟩
  · rw [upS_at] at hm; cases hm
  · refine ⟨r, b, w.heap.size, w', updG_at _ _ _, Below.size h.nw, hr, Below.refl _ _, fun bx hs hg => ?_⟩
    rw [upS_ne (by omega)] at hs
    rw [updG_ne (by omega)] at hg
    obtain ⟨bx', h1, _, h3, _⟩ := h.box hs
    rw [hg] at h1
    injection h1 with h1; injection h1 with h1; injection h1 with h1
    exact Or.inl (by omega)
  · rw [upS_ne (by omega), updG_ne (by omega)]; exact h'.box
  · rw [upS_ne (by omega), hno]; intro h; cases h
theorem RcX.Wd.alloc {X : RcX} (ok : X.Ok) {S : Nat → Bool} {γ : Nat → Value} {w : World} (h : X.Wd S γ w) (hno : S (X.nc + 1 + 1) = false) (zs : Array Value) (t : TypeId) (hz : zs.size = X.n) :
    X.Wd (upS S (X.nc + 1)) (updG γ (X.nc + 1) (.pointer (some ⟨w.heap.size, 0, none⟩))) (w.alloc (.cells zs t)) := by
  have n1 : Nw w (w.alloc (.cells zs t)) := (Below.refl _ _).alloc (Nat.le_refl _) _
  have h' := h.keep ok n1
  refine ⟨h'.nw, fun j hj hs hm => ?_, ?_, fun _ => ?_, ?_⟩
  · rw [upS_ne (by omega)] at hs hm; rw [updG_ne (by omega)]; exact h'.cp j hj hs hm
  · rw [upS_ne (by omega), updG_ne (by omega), updG_at]
    intro hs
    obtain ⟨r, b, B, w0, h1, h2, h3, h4, _⟩ := h.ans hs
    refine ⟨r, b, B, w, h1, h2, ok.rnw _ _ _ _ _ h3 h4, n1, fun bx _ hg => ?_⟩
    injection hg with hg; injection hg with hg; injection hg with hg
    exact Or.inr (by omega)
  · refine ⟨w.heap.size, updG_at _ _ _, Below.size h.nw, by simp, fun j hj => ?_, fun o => World.frozen?_alloc_at _ _ _ _ rfl⟩
    refine ⟨zs[j]'(by omega), ?_⟩
    rw [World.cell?_alloc_at _ _ _ _ rfl]
    exact Array.getElem?_eq_getElem (by omega)
  · rw [upS_ne (by omega), hno]; intro h; cases h
/-- The cells cs, laid from j on. -/
def setL (w : World) (b : Nat) : List Value → Nat → World
  | [], _ => w
  | c :: cs, j => setL (w.setCell ⟨b, j, none⟩ c) b cs (j + 1)
theorem setL_size (b : Nat) : ∀ (cs : List Value) (w : World) (j : Nat), (setL w b cs j).heap.size = w.heap.size
  | [], _, _ => rfl
  | c :: cs, w, j => by
    unfold setL
    rw [setL_size b cs]
    simp [World.setCell]
theorem setL_below (b B : Nat) (hB : B ≤ b) : ∀ (cs : List Value) (w0 w : World) (j : Nat), Below B w0 w → Below B w0 (setL w b cs j)
  | [], _, _, _, h => h
  | c :: cs, w0, w, j, h => setL_below b B hB cs w0 _ (j + 1) (h.setCell hB _)
theorem setL_frozen (b : Nat) : ∀ (cs : List Value) (w : World) (j : Nat) (ad : Addr), (setL w b cs j).frozen? ad = w.frozen? ad
  | [], _, _, _ => rfl
  | c :: cs, w, j, ad => by
    unfold setL
    rw [setL_frozen b cs, World.frozen?_setCell]
theorem setL_before (b : Nat) : ∀ (cs : List Value) (w : World) (j i : Nat), i < j → (setL w b cs j).cell? ⟨b, i, none⟩ = w.cell? ⟨b, i, none⟩
  | [], _, _, _, _ => rfl
  | c :: cs, w, j, i, h => by
    unfold setL
    rw [setL_before b cs _ (j + 1) i (by omega), World.cell?_setCell_other _ _ _ _ (fun e => by injection e; omega)]
theorem setL_at (b : Nat) : ∀ (cs : List Value) (w : World) (j : Nat), (∀ i, i < cs.length → ∃ u, w.cell? ⟨b, j + i, none⟩ = some u) → ∀ i, i < cs.length → (setL w b cs j).cell? ⟨b, j + i, none⟩ = cs[i]?
  | [], _, _, _, _, h => absurd h (by simp)
  | c :: cs, w, j, hc, i, hi => by
    unfold setL
    cases i with
    | zero =>
      rw [setL_before b cs _ (j + 1) (j + 0) (by omega)]
      obtain ⟨u, hu⟩ := hc 0 (by simp)
      simpa using World.cell?_setCell_same w ⟨b, j + 0, none⟩ c hu
    | succ i =>
      have h2 := setL_at b cs (w.setCell ⟨b, j, none⟩ c) (j + 1) (fun m hm => by
        obtain ⟨u, hu⟩ := hc (m + 1) (by simp; omega)
        refine ⟨u, ?_⟩
        rw [World.cell?_setCell_other _ _ _ _ (fun e => by injection e; omega), show j + 1 + m = j + (m + 1) by omega]
        exact hu) i (by simpa using hi)
      rw [show j + (i + 1) = j + 1 + i by omega, h2]
      simp
theorem RcX.R.setL {X : RcX} (ok : X.Ok) {B bx : Nat} {r b : Value} (hb : bx < B) : ∀ (cs : List Value) (w : World) (j : Nat), X.R B w r b → X.R B (setL w bx cs j) r b
  | [], _, _, h => h
  | c :: cs, w, j, h => RcX.R.setL ok hb cs _ (j + 1) (ok.far _ _ _ _ _ _ _ h hb)
theorem RcX.Wd.store {X : RcX} (ok : X.Ok) {S : Nat → Bool} {γ : Nat → Value} {w : World} (h : X.Wd S γ w) (hs1 : S X.nc = true) (hs2 : S (X.nc + 1) = true) {bx : Nat} {r b : Value} (hg : γ (X.nc + 1) = .pointer (some ⟨bx, 0, none⟩)) (ha : γ X.nc = .tuple #[r, b])
    (u : Value) : X.Wd (upS S (X.nc + 1 + 1)) (updG γ (X.nc + 1 + 1) u) (setL w bx r.cells.toList 0) := by
  have hS1 : upS S (X.nc + 1 + 1) X.nc = S X.nc := upS_ne (by omega)
  have hS2 : upS S (X.nc + 1 + 1) (X.nc + 1) = S (X.nc + 1) := upS_ne (by omega)
  have hγ1 : updG γ (X.nc + 1 + 1) u X.nc = γ X.nc := updG_ne (by omega)
  have hγ2 : updG γ (X.nc + 1 + 1) u (X.nc + 1) = γ (X.nc + 1) := updG_ne (by omega)
  generalize upS S (X.nc + 1 + 1) = S' at *
  generalize updG γ (X.nc + 1 + 1) u = γ' at *
  obtain ⟨bx', g1, g2, g3, g4, g5⟩ := h.box hs2
  rw [hg] at g1
  injection g1 with g1; injection g1 with g1; injection g1 with g1
  subst g1
  obtain ⟨r', b', B, w0, a1, a2, a3, a3n, a4⟩ := h.ans hs1
  rw [ha] at a1
  injection a1 with a1; injection a1 with a1; injection a1 with a1 a5; injection a5 with a5 a6
  subst a1 a5
  have hn : r.cells.toList.length = X.n := by simpa using ok.cells _ _ _ _ a3
  have hat := setL_at bx r.cells.toList w 0 (fun i hi => by rw [Nat.zero_add]; exact g4 i (by omega))
  have hfar := a4 bx hs2 hg
  refine ⟨setL_below bx _ g2 _ _ _ _ h.nw, fun i hi hs hm => absurd hm (by rw [hS1, hs1]; decide), fun _ => ?_, fun _ => ?_, fun _ => ?_⟩
  · have same : ∀ bx', γ' (X.nc + 1) = .pointer (some ⟨bx', 0, none⟩) → bx' = bx := fun bx' hg' => by
      rw [hγ2, hg] at hg'
      injection hg' with hg'; injection hg' with hg'; injection hg' with hg'
      exact hg'.symm
    rcases hfar with hf | hf
    · exact ⟨r, b, B, setL w bx r.cells.toList 0, by rw [hγ1]; exact ha, a2, RcX.R.setL ok hf _ _ _ (ok.rnw _ _ _ _ _ a3 a3n), Below.refl _ _, fun bx' _ hg' => Or.inl (by rw [same bx' hg']; exact hf)⟩
    · exact ⟨r, b, B, w0, by rw [hγ1]; exact ha, a2, a3, setL_below bx _ hf _ _ _ _ a3n, fun bx' _ hg' => Or.inr (by rw [same bx' hg']; exact hf)⟩
  · refine ⟨bx, by rw [hγ2]; exact hg, g2, by rw [setL_size]; exact g3, fun j hj => ?_, fun o => by rw [setL_frozen]; exact g5 o⟩
    have := hat j (by omega)
    rw [Nat.zero_add] at this
    exact ⟨_, this.trans (List.getElem?_eq_getElem (by omega))⟩
  · refine ⟨bx, r, b, by rw [hγ2]; exact hg, by rw [hγ1]; exact ha, by rw [setL_size]; exact g3, fun j hj => ?_⟩
    have := hat j (by omega)
    rw [Nat.zero_add] at this
    rw [this]
    simp
/-- All have come up. -/
theorem RcX.Wd.fin {X : RcX} (ok : X.Ok) {S : Nat → Bool} {γ : Nat → Value} {w : World} (h : X.Wd S γ w) (hs : ∀ k, k < X.nc + 3 → S k = true) :
    ∃ bx r b B w0, γ (X.nc + 1) = .pointer (some ⟨bx, 0, none⟩) ∧ γ X.nc = .tuple #[r, b] ∧ Nw X.W w ∧ X.W.heap.size ≤ bx ∧ bx < w.heap.size ∧ (∀ o, w.frozen? ⟨bx, o, none⟩ = false) ∧ (∀ j, j < X.n → w.cell? ⟨bx, j, none⟩ = r.cells[j]?) ∧ X.W.heap.size ≤ B ∧ X.R B w0 r b ∧ Nw w0 w ∧ (bx < B ∨ w0.heap.size ≤ bx) := by
  obtain ⟨bx, h1, h2, h3, _, h5⟩ := h.box (hs _ (by omega))
  obtain ⟨r, b, B, w0, g1, g2, g3, g4, g5⟩ := h.ans (hs _ (by omega))
  obtain ⟨bx', r', b', k1, k2, k3, k4⟩ := h.put (hs _ (by omega))
  rw [h1] at k1
  injection k1 with k1; injection k1 with k1; injection k1 with k1
  subst k1
  rw [g1] at k2
  injection k2 with k2; injection k2 with k2; injection k2 with k2 k5; injection k5 with k5 k6
  subst k2 k5
  exact ⟨bx, r, b, B, w0, h1, g1, h.nw, h2, h3, h5, k4, g2, g3, g4, g5 bx (hs _ (by omega)) h1⟩
end Go.Proofs.YtfdjjbgcaojcnaaGreat
