/-
  A region that draws its order and holds a row of operations that act on the memory, each waiting for the one ahead: whatever order comes up; each theorem names its conditions.
  A region that draws its order and holds guarded operations whose guards are known; each theorem names its conditions.
  A region that draws its order, in short: the operations that only read and work out values by one theorem, what they read checked by a Bool; each theorem names its conditions.
  The statement of l5Part that appends a class; each theorem names its conditions.
-/
import Derived.Test.YtnkmdmmlpidcmaaDoorJAG
namespace Go.Proofs.YtnkmdmmlpidcmaaDoor
open Go.ChangeShapes Go.WideShapes Go.ChangeAt Go.RowKit
set_option linter.unusedVariables false

theorem fields2 {ops : Array Oper} {i : Nat} {o : Oper} {x : Option Tmp} {y : Op} {z : Option (Nat × Bool)} (h : (ops[i]?).map (fun o => (o.dst, o.op, o.guard)) = some (x, y, z)) (ho : ops[i]? = some o) : o.dst = x ∧ o.op = y ∧ o.guard = z := by
  rw [ho] at h
  simp only [Option.map_some, Option.some.injEq, Prod.mk.injEq] at h
  exact h
/-- Operation i waits for operation j. -/
def waitsB (ops : Array Oper) (i j : Nat) : Bool := ((ops[i]?).map (fun o => o.after.any fun e => decide (e.on = j) && Region.binds .any e)).getD false
theorem waitsB_spec {ops : Array Oper} {i j : Nat} (h : waitsB ops i j = true) : ∃ o, ops[i]? = some o ∧ ∃ e ∈ o.after, Region.binds .any e = true ∧ e.on = j := by
  unfold waitsB at h
  cases ho : ops[i]? with
  | none => rw [ho] at h; cases h
  | some o =>
    rw [ho] at h
    simp only [Option.map_some, Option.getD_some, Array.any_eq_true] at h
    obtain ⟨k, hk, h3⟩ := h
    simp only [Bool.and_eq_true, decide_eq_true_eq] at h3
    exact ⟨o, rfl, o.after[k], Array.getElem_mem hk, h3.2, h3.1⟩
theorem waits2 {ops : Array Oper} {listed : Array Bool} {i j : Nat} {o : Oper} (ho : ops[i]? = some o) (h : waitsB ops i j = true) (h2 : ∀ e ∈ o.after, Region.binds .any e = true → listed.getD e.on false = true) : listed.getD j false = true := by
  obtain ⟨o', ho', e, he, hb, hj⟩ := waitsB_spec h
  rw [ho] at ho'
  injection ho' with ho'
  subst ho'
  rw [← hj]
  exact h2 e he hb
/-- What has come up has not come up ahead of what it waits for. -/
def Clo (ops : Array Oper) (listed : Array Bool) : Prop := ∀ i j, listed.getD i false = true → waitsB ops i j = true → listed.getD j false = true
theorem Clo.set {ops : Array Oper} {listed : Array Bool} {i : Nat} {o : Oper} (h : Clo ops listed) (hi : i < listed.size) (ho : ops[i]? = some o) (h2 : ∀ e ∈ o.after, Region.binds .any e = true → listed.getD e.on false = true) : Clo ops (listed.setIfInBounds i true) := by
  intro k j hk hw
  rw [getF_set hi] at hk ⊢
  by_cases e : k = i
  · subst e
    rw [waits2 ho hw h2]; simp
  · rw [decide_eq_false e, Bool.false_or] at hk
    rw [h k j hk hw]; simp
/-- A way of waitings. -/
def pathB (ops : Array Oper) : List Nat → Bool
  | [] => true
  | [_] => true
  | i :: j :: l => waitsB ops i j && pathB ops (j :: l)
theorem Clo.path {ops : Array Oper} {listed : Array Bool} (h : Clo ops listed) : ∀ (l : List Nat) (i : Nat), pathB ops (i :: l) = true → listed.getD i false = true → ∀ j ∈ l, listed.getD j false = true
  | [], _, _, _, j, hj => by cases hj
  | k :: l, i, hp, hi, j, hj => by
    simp only [pathB, Bool.and_eq_true] at hp
    have hk := h i k hi hp.1
    rcases List.mem_cons.1 hj with e | e
    · subst e; exact hk
    · exact h.path l k hp.2 hk j e
theorem FrI.cong {ops : Array Oper} {val val' : Nat → Value} {a0 a : Act} {listed : Array Bool} (h : FrI ops val a0 listed a) (hv : ∀ d, got ops listed d → val d = val' d) : FrI ops val' a0 listed a :=
  ⟨h.size, h.defers, h.tsize, fun d hd hg => (h.yes d hd hg).trans (hv d hg), h.no⟩
theorem all_ready2 {ops : Array Oper} {md : Region.Mode} {listed : Array Bool} (h : (List.range ops.size).all (fun i => ((ops[i]?).map (fun o => o.after.all fun e => !Region.binds md e || decide (e.on < i))).getD true) = true) (hs : listed.size = ops.size) (hr : Region.ready md ops listed = []) : ∀ i, i < ops.size → listed.getD i false = true := by
  intro i
  induction i using Nat.strongRecOn with
  | _ i ih =>
    intro hi
    cases hl : listed.getD i false with
    | true => rfl
    | false =>
      exfalso
      have hlt : i < listed.size := by rw [hs]; exact hi
      have hl2 : listed.getD i true = false := by
        rw [Array.getD_eq_getD_getElem?, Array.getElem?_eq_getElem hlt] at hl ⊢; exact hl
      have ho : ops[i]? = some ops[i] := Array.getElem?_eq_getElem hi
      have hm : i ∈ Region.ready md ops listed := mem_ready.2 ⟨hl2, ops[i], ho, fun e he hb => by
        have h1 := List.all_eq_true.1 h i (List.mem_range.2 hi)
        rw [ho] at h1
        simp only [Option.map_some, Option.getD_some] at h1
        have h2 := (Array.all_eq_true_iff_forall_mem.1 h1) e he
        rw [hb] at h2
        simp at h2
        exact ih e.on h2 (by omega)⟩
      rw [hr] at hm
      cases hm
/-- The values, laid one behind the other. -/
def putsL (val : Nat → Value) : List Oper → Act → Act
  | [], a => a
  | o :: l, a => putsL val l (match o.dst with | some d => a.put (some d) (val d) | none => a)
theorem put_get (a : Act) (d d' : Nat) (v : Value) : (a.put (some d) v).tmps.getD d' undef = if d' = d ∧ d < a.tmps.size then v else a.tmps.getD d' undef := by
  show (a.tmps.setIfInBounds d v).getD d' undef = _
  by_cases e : d = d'
  · subst e
    by_cases hs : d < a.tmps.size
    · rw [Array.getD_eq_getD_getElem?, Array.getElem?_setIfInBounds_self_of_lt hs, if_pos ⟨rfl, hs⟩]; rfl
    · rw [if_neg (fun h => hs h.2), Array.setIfInBounds_eq_of_size_le (by omega)]
  · rw [if_neg (fun h => e h.1.symm), Array.getD_eq_getD_getElem?, Array.getElem?_setIfInBounds_ne e, ← Array.getD_eq_getD_getElem?]
theorem put_size (a : Act) (d : Nat) (v : Value) : (a.put (some d) v).tmps.size = a.tmps.size := by
  show (a.tmps.setIfInBounds d v).size = _
  simp
theorem putsL_facts (val : Nat → Value) : ∀ (l : List Oper) (a : Act), (putsL val l a).defers = a.defers ∧ (putsL val l a).tmps.size = a.tmps.size ∧
    ∀ d, d < a.tmps.size → (putsL val l a).tmps.getD d undef = if l.any (fun o => o.dst == some d) then val d else a.tmps.getD d undef
  | [], a => ⟨rfl, rfl, fun d _ => by simp [putsL]⟩
  | o :: l, a => by
    cases hd : o.dst with
    | none =>
      have e : putsL val (o :: l) a = putsL val l a := by simp only [putsL, hd]
      rw [e]
      obtain ⟨h1, h2, h3⟩ := putsL_facts val l a
      refine ⟨h1, h2, fun d hlt => ?_⟩
      rw [h3 d hlt]
      simp [hd]
    | some t =>
      have e : putsL val (o :: l) a = putsL val l (a.put (some t) (val t)) := by simp only [putsL, hd]
      rw [e]
      obtain ⟨h1, h2, h3⟩ := putsL_facts val l (a.put (some t) (val t))
      refine ⟨h1.trans rfl, h2.trans (put_size a t _), fun d hlt => ?_⟩
      rw [h3 d (by rw [put_size]; exact hlt), put_get]
      by_cases ht : d = t
      · subst ht
        simp [hd, hlt]
      · have ht2 : ¬ t = d := fun h => ht h.symm
        simp [hd, ht, ht2]
theorem FrI.puts {ops : Array Oper} {val : Nat → Value} {a0 a : Act} {listed : Array Bool} (h : FrI ops val a0 listed a) (hall : ∀ i, i < ops.size → listed.getD i false = true) : a = putsL val ops.toList a0 := by
  rw [h.fin hall]
  obtain ⟨h1, h2, h3⟩ := putsL_facts val ops.toList a0
  generalize putsL val ops.toList a0 = b at *
  obtain ⟨t, ds⟩ := b
  simp only at h1 h2 h3
  subst h1
  congr 1
  apply Array.ext
  · simp [h2]
  · intro d hd1 hd2
    have hd : d < a0.tmps.size := by simpa using hd1
    have e : t[d] = t.getD d undef := by rw [Array.getD_eq_getD_getElem?, Array.getElem?_eq_getElem hd2]; rfl
    rw [e, h3 d hd]
    simp only [List.getElem_toArray, List.getElem_map, List.getElem_range]
    have hcond : (List.range ops.size).any (fun i => dstOf ops i == some d) = ops.toList.any (fun o => o.dst == some d) := by
      rw [Bool.eq_iff_iff, List.any_eq_true, List.any_eq_true]
      constructor
      · rintro ⟨i, hi, h5⟩
        have hi := List.mem_range.1 hi
        refine ⟨ops[i], by simp, ?_⟩
        unfold dstOf at h5
        rw [Array.getElem?_eq_getElem hi] at h5
        exact h5
      · rintro ⟨o, ho, h5⟩
        obtain ⟨i, hi, rfl⟩ := List.getElem_of_mem ho
        refine ⟨i, List.mem_range.2 (by simpa using hi), ?_⟩
        unfold dstOf
        rw [Array.getElem?_eq_getElem (by simpa using hi)]
        simpa using h5
    rw [hcond]

/-! ### The acting operations, one behind the other -/
/-- How many of the acting ones have come up. -/
def phase (listed : Array Bool) : List Nat → Nat
  | [] => 0
  | i :: l => if listed.getD i false = true then phase listed l + 1 else 0
theorem phase_ne {listed : Array Bool} {i : Nat} (hi : i < listed.size) : ∀ (l : List Nat), i ∉ l → phase (listed.setIfInBounds i true) l = phase listed l
  | [], _ => rfl
  | k :: l, h => by
    have hk : k ≠ i := fun e => h (by rw [e]; exact List.mem_cons_self)
    unfold phase
    rw [getF_set hi, decide_eq_false hk, Bool.false_or, phase_ne hi l (fun e => h (List.mem_cons_of_mem _ e))]
/-- At a place of the row: how many have come up. -/
theorem phase_at {listed : Array Bool} : ∀ (l : List Nat) (k : Nat) (i : Nat), l[k]? = some i → listed.getD i false = false → phase listed l ≤ k
  | [], _, _, h, _ => by simp at h
  | j :: l, 0, i, h, hl => by
    simp at h
    subst h
    unfold phase
    rw [hl]
    simp
  | j :: l, k + 1, i, h, hl => by
    have h' : l[k]? = some i := by simpa using h
    have := phase_at l k i h' hl
    unfold phase
    split <;> omega
theorem phase_full {listed : Array Bool} : ∀ (l : List Nat), (∀ i ∈ l, listed.getD i false = true) → phase listed l = l.length
  | [], _ => rfl
  | j :: l, h => by
    unfold phase
    rw [h j List.mem_cons_self, phase_full l (fun i hi => h i (List.mem_cons_of_mem _ hi))]
    simp
/-- The acting operation number k comes up when those ahead have. -/
theorem phase_eq {listed : Array Bool} : ∀ (l : List Nat) (k : Nat) (i : Nat), l[k]? = some i → listed.getD i false = false → (∀ j, j < k → ∀ x, l[j]? = some x → listed.getD x false = true) → phase listed l = k
  | [], _, _, h, _, _ => by simp at h
  | j :: l, 0, i, h, hl, _ => by
    simp at h
    subst h
    unfold phase
    rw [hl]
    simp
  | j :: l, k + 1, i, h, hl, ha => by
    have h' : l[k]? = some i := by simpa using h
    have hj := ha 0 (by omega) j rfl
    unfold phase
    rw [hj, phase_eq l k i h' hl (fun m hm x hx => ha (m + 1) (by omega) x (by simpa using hx))]
    simp
theorem phase_step {listed : Array Bool} {i : Nat} (hi : i < listed.size) : ∀ (l : List Nat) (k : Nat), l.Nodup → l[k]? = some i → listed.getD i false = false → (∀ j, j < k → ∀ x, l[j]? = some x → listed.getD x false = true) → (∀ j x, k < j → l[j]? = some x → listed.getD x false = false) →
    phase (listed.setIfInBounds i true) l = k + 1
  | [], _, _, h, _, _, _ => by simp at h
  | j :: l, 0, hnd, h, hl, _, hb => by
    simp at h
    subst h
    unfold phase
    rw [getF_set hi]
    have : phase (listed.setIfInBounds j true) l = 0 := by
      rw [phase_ne hi l (List.nodup_cons.1 hnd).1]
      cases l with
      | nil => rfl
      | cons x l =>
        unfold phase
        rw [hb 1 x (by omega) rfl]
        simp
    rw [this]
    simp
  | j :: l, k + 1, hnd, h, hl, ha, hb => by
    have h' : l[k]? = some i := by simpa using h
    have hj := ha 0 (by omega) j rfl
    have := phase_step hi l k (List.nodup_cons.1 hnd).2 h' hl (fun m hm x hx => ha (m + 1) (by omega) x (by simpa using hx)) (fun m x hm hx => hb (m + 1) x (by omega) (by simpa using hx))
    unfold phase
    rw [getF_set hi, hj, this]
    simp
/-- The values: those of the acting ones are letters. -/
def valG (av : Nat → Option Nat) (val0 : Nat → Value) (γ : Nat → Value) (d : Nat) : Value := match av d with | some k => γ k | none => val0 d
def updG (γ : Nat → Value) (k : Nat) (u : Value) : Nat → Value := fun j => if j = k then u else γ j
section
variable {ops : Array Oper} {acts : List Nat} {av : Nat → Option Nat} {val0 : Nat → Value} {Wd : Nat → (Nat → Value) → World → Prop} {a0 : Act} {Q : Exit → Act → World → Prop}
/-- What every operation keeps. -/
def InvG (ops : Array Oper) (acts : List Nat) (av : Nat → Option Nat) (val0 : Nat → Value) (Wd : Nat → (Nat → Value) → World → Prop) (a0 : Act) (listed : Array Bool) (a : Act) (w : World) : Prop :=
  ∃ γ, FrI ops (valG av val0 γ) a0 listed a ∧ Clo ops listed ∧ Wd (phase listed acts) γ w
/-- What is asked of operation i. -/
def StepG (ops : Array Oper) (acts : List Nat) (av : Nat → Option Nat) (val0 : Nat → Value) (Wd : Nat → (Nat → Value) → World → Prop) (a0 : Act) (Q : Exit → Act → World → Prop) (i : Nat) : Prop :=
  ∀ γ listed a w o, FrI ops (valG av val0 γ) a0 listed a → Clo ops listed → Wd (phase listed acts) γ w → listed.getD i true = false → ops[i]? = some o → (∀ e ∈ o.after, Region.binds .any e = true → listed.getD e.on false = true) →
    wpOp Tryd.prog ops Q i (fun a' w' => InvG ops acts av val0 Wd a0 (listed.setIfInBounds i true) a' w') a w
theorem unl {listed : Array Bool} {i : Nat} (hi : i < listed.size) (h1 : listed.getD i true = false) : listed.getD i false = false := by
  rw [Array.getD_eq_getD_getElem?, Array.getElem?_eq_getElem hi] at h1 ⊢; exact h1
/-- An operation that leaves the world alone. -/
theorem st_pureG {γ : Nat → Value} {listed : Array Bool} {a : Act} {w : World} {i d : Nat} {o : Oper} (hF : FrI ops (valG av val0 γ) a0 listed a) (hC : Clo ops listed) (hW : Wd (phase listed acts) γ w) (ho : ops[i]? = some o) (h2 : ∀ e ∈ o.after, Region.binds .any e = true → listed.getD e.on false = true)
    (hna : i ∉ acts) (hd : o.dst = some d) (hg : o.guard = none) (hav : av d = none) (hrun : (execOp a.eval o).run Tryd.prog w = .ok (.value (val0 d)) w) : wpOp Tryd.prog ops Q i (fun a' w' => InvG ops acts av val0 Wd a0 (listed.setIfInBounds i true) a' w') a w := by
  have hi := hF.lt ho
  unfold wpOp
  rw [ho]
  have hw : Region.wanted o (yielded ops a.tmps) = true := by unfold Region.wanted; rw [hg]
  simp only [hw, if_true]
  refine Or.inl ?_
  unfold Oper.wp
  rw [hrun]
  have e : valG av val0 γ d = val0 d := by unfold valG; rw [hav]
  refine ⟨γ, ?_, hC.set hi ho h2, by rw [phase_ne hi acts hna]; exact hW⟩
  have := hF.put ho hd
  rw [e] at this
  exact this
/-- A call that makes memory at most. -/
theorem st_callG {γ : Nat → Value} {listed : Array Bool} {a : Act} {w : World} {i d : Nat} {o : Oper} {f : FuncId} {args : Array Value} (hF : FrI ops (valG av val0 γ) a0 listed a) (hC : Clo ops listed) (hW : Wd (phase listed acts) γ w) (ho : ops[i]? = some o) (h2 : ∀ e ∈ o.after, Region.binds .any e = true → listed.getD e.on false = true)
    (hna : i ∉ acts) (hd : o.dst = some d) (hg : o.guard = none) (hav : av d = none) (hrun : (execOp a.eval o).run Tryd.prog w = .ok (.enter f args) w) (hc : Calls Tryd.prog f args w fun e w' => e = .returned (val0 d) ∧ Kp w w') (hk : ∀ w', Kp w w' → Wd (phase listed acts) γ w') :
    wpOp Tryd.prog ops Q i (fun a' w' => InvG ops acts av val0 Wd a0 (listed.setIfInBounds i true) a' w') a w := by
  have hi := hF.lt ho
  unfold wpOp
  rw [ho]
  have hw : Region.wanted o (yielded ops a.tmps) = true := by unfold Region.wanted; rw [hg]
  simp only [hw, if_true]
  refine Or.inl ?_
  unfold Oper.wp
  rw [hrun]
  have e : valG av val0 γ d = val0 d := by unfold valG; rw [hav]
  refine Calls.mono hc ?_
  rintro e' w' ⟨rfl, hkk⟩
  refine ⟨γ, ?_, hC.set hi ho h2, by rw [phase_ne hi acts hna]; exact hk w' hkk⟩
  have := hF.put ho hd
  rw [e] at this
  exact this
/-- Each acting one waits for the one ahead. -/
def chainG (ops : Array Oper) (acts : List Nat) : Bool := (List.range (acts.length - 1)).all fun k => waitsB ops (acts.getD (k + 1) 0) (acts.getD k 0)
theorem chainG_at (h : chainG ops acts = true) {k : Nat} (hk : k + 1 < acts.length) : waitsB ops (acts.getD (k + 1) 0) (acts.getD k 0) = true :=
  List.all_eq_true.1 h k (List.mem_range.2 (by omega))
theorem below_listed {listed : Array Bool} (h : chainG ops acts = true) (hC : Clo ops listed) : ∀ (k : Nat), k < acts.length → listed.getD (acts.getD k 0) false = true → ∀ j, j ≤ k → listed.getD (acts.getD j 0) false = true
  | 0, _, hl, j, hj => by
    have e : j = 0 := by omega
    rw [e]
    exact hl
  | k + 1, hk, hl, j, hj => by
    by_cases e : j = k + 1
    · subst e; exact hl
    · exact below_listed h hC k (by omega) (hC _ _ hl (chainG_at h hk)) j (by omega)
/-- The acting operation number k. -/
theorem st_actG {γ : Nat → Value} {listed : Array Bool} {a : Act} {w : World} {i k : Nat} {o : Oper} (hch : chainG ops acts = true) (hnd : acts.Nodup) (hk : acts[k]? = some i) (hF : FrI ops (valG av val0 γ) a0 listed a) (hC : Clo ops listed) (hW : Wd (phase listed acts) γ w) (h1 : listed.getD i true = false) (ho : ops[i]? = some o) (h2 : ∀ e ∈ o.after, Region.binds .any e = true → listed.getD e.on false = true)
    (hd : (o.dst = none) ∨ ∃ d, o.dst = some d ∧ av d = some k) (hinj : ∀ d, got ops listed d → av d ≠ some k) (hg : o.guard = none)
    (hrun : Wd k γ w → ∀ K : Act → World → Prop, (∀ u w', Wd (k + 1) (updG γ k u) w' → K (a.put o.dst u) w') → o.wp Tryd.prog a w K Q) :
    wpOp Tryd.prog ops Q i (fun a' w' => InvG ops acts av val0 Wd a0 (listed.setIfInBounds i true) a' w') a w := by
  have hi := hF.lt ho
  have hu := unl hi h1
  have hkl : k < acts.length := (List.getElem?_eq_some_iff.1 hk).1
  have hgk : acts.getD k 0 = i := by rw [List.getD_eq_getElem?_getD, hk]; rfl
  have hat : ∀ j x, acts[j]? = some x → acts.getD j 0 = x := fun j x hx => by rw [List.getD_eq_getElem?_getD, hx]; rfl
  have hbelow : ∀ j, j < k → ∀ x, acts[j]? = some x → listed.getD x false = true := fun j hj x hx => by
    have hl : listed.getD (acts.getD (k - 1) 0) false = true := by
      have := chainG_at hch (k := k - 1) (by omega)
      rw [show k - 1 + 1 = k by omega, hgk] at this
      exact waits2 ho this h2
    have := below_listed hch hC (k - 1) (by omega) hl j (by omega)
    rw [hat j x hx] at this
    exact this
  have habove : ∀ j x, k < j → acts[j]? = some x → listed.getD x false = false := fun j x hj hx => by
    cases hl : listed.getD x false with
    | false => rfl
    | true =>
      have hjl : j < acts.length := (List.getElem?_eq_some_iff.1 hx).1
      have := below_listed hch hC j hjl (by rw [hat j x hx]; exact hl) k (by omega)
      rw [hgk, hu] at this
      cases this
  have hph : phase listed acts = k := phase_eq acts k i hk hu hbelow
  have hph2 : phase (listed.setIfInBounds i true) acts = k + 1 := phase_step hi acts k hnd hk hu hbelow habove
  rw [hph] at hW
  unfold wpOp
  rw [ho]
  have hw : Region.wanted o (yielded ops a.tmps) = true := by unfold Region.wanted; rw [hg]
  simp only [hw, if_true]
  refine Or.inl (hrun hW _ ?_)
  intro u w' hW'
  have hF2 : FrI ops (valG av val0 (updG γ k u)) a0 listed a := hF.cong (fun d hgd => by
    unfold valG
    cases hav : av d with
    | none => rfl
    | some j =>
      have : j ≠ k := fun e => hinj d hgd (by rw [hav, e])
      simp [updG, this])
  refine ⟨updG γ k u, ?_, hC.set hi ho h2, by rw [hph2]; exact hW'⟩
  rcases hd with hd | ⟨d, hd, hav⟩
  · exact hF2.skip ho hd u
  · have := hF2.put ho hd
    have e : valG av val0 (updG γ k u) d = u := by unfold valG; rw [hav]; simp [updG]
    rw [e] at this
    exact this
/-- The region, whatever order comes up. -/
theorem reg_act {id : Nat} {w : World} (hm : Tryd.prog.follows .mixedOrders = true) (hup : (List.range ops.size).all (fun i => ((ops[i]?).map (fun o => o.after.all fun e => !Region.binds .any e || decide (e.on < i))).getD true) = true)
    (hac : ∀ i ∈ acts, i < ops.size) (hstep : ∀ i, i < ops.size → StepG ops acts av val0 Wd a0 Q i) (γ0 : Nat → Value) (h0 : Wd 0 γ0 w.drew) (hend : ∀ γ w', Wd acts.length γ w' → Q .normal (putsL (valG av val0 γ) ops.toList a0) w') : (Code.region id ops true).wp Tryd.prog Q a0 w := by
  refine wp_region_any hm ?_
  refine wpAny_inv (InvG ops acts av val0 Wd a0) (fun listed a w i o hI h1 ho h2 => ?_) (fun listed a w hI hr => ?_) _ _ _ _ ?_ ?_
  · obtain ⟨γ, hF, hC, hW⟩ := hI
    exact hstep i (Array.getElem?_eq_some_iff.1 ho).1 γ listed a w o hF hC hW h1 ho h2
  · obtain ⟨γ, hF, hC, hW⟩ := hI
    have hall := all_ready2 hup hF.size hr
    rw [phase_full acts (fun i hi => hall i (hac i hi))] at hW
    rw [hF.puts hall]
    exact hend γ w hW
  · have hno : ∀ j, (Array.replicate ops.size false).getD j false = false := fun j => by
      rw [Array.getD_eq_getD_getElem?, Array.getElem?_replicate]; split <;> rfl
    refine ⟨γ0, ⟨by simp, rfl, rfl, fun d _ hg => ?_, fun d _ => rfl⟩, fun i j h => ?_, ?_⟩
    · obtain ⟨i, h1, _⟩ := hg; rw [hno] at h1; cases h1
    · rw [hno] at h; cases h
    · have : phase (Array.replicate ops.size false) acts = 0 := by
        cases acts with
        | nil => rfl
        | cons i l => unfold phase; rw [hno]; simp
      rw [this]
      exact h0
  · unfold left; exact Nat.le_trans (List.length_filter_le _ _) (by simp)
/-- A slot that an operation has filled that this one waits for. -/
theorem slotG {γ : Nat → Value} {listed : Array Bool} {a : Act} {i j d : Nat} {o : Oper} (hF : FrI ops (valG av val0 γ) a0 listed a) (ho : ops[i]? = some o) (h2 : ∀ e ∈ o.after, Region.binds .any e = true → listed.getD e.on false = true) (hw : waitsB ops i j = true) (hd : dstOf ops j = some d) (hs : d < a0.tmps.size) : a.eval (.tmp d) = valG av val0 γ d :=
  hF.eval (waits2 ho hw h2) hd hs
/-- An operation that comes up ahead of the acting one number m. -/
theorem phase_leG {listed : Array Bool} {i m x : Nat} (hC : Clo ops listed) (hu : listed.getD i false = false) (hm : acts[m]? = some x) (p : List Nat) (hp : pathB ops (x :: p) = true) (hi : i ∈ p) : phase listed acts ≤ m := by
  refine phase_at acts m x hm ?_
  cases hl : listed.getD x false with
  | false => rfl
  | true =>
    have := hC.path p x hp hl i hi
    rw [hu] at this
    cases this
end
end Go.Proofs.YtnkmdmmlpidcmaaDoor
namespace Go.Proofs.YtnkmdmmlpidcmaaDoor
open Go.ChangeShapes Go.WideShapes Go.ChangeAt Go.RowKit
set_option linter.unusedVariables false

section
variable {ops : Array Oper} {acts : List Nat} {av : Nat → Option Nat} {val0 : Nat → Value} {Wd : Nat → (Nat → Value) → World → Prop} {a0 : Act} {Q : Exit → Act → World → Prop}
theorem yl_of {a : Act} {j d : Nat} {v : Bool} (hd : dstOf ops j = some d) (hs : d < a.tmps.size) (he : a.eval (.tmp d) = .bool v) : yielded ops a.tmps j = some v := by
  have h1 : a.tmps.getD d undef = .bool v := he
  rw [Array.getD_eq_getD_getElem?, Array.getElem?_eq_getElem hs] at h1
  simp only [Option.getD_some] at h1
  unfold yielded
  unfold dstOf at hd
  rw [hd]
  simp only [Option.bind_some, Array.getElem?_eq_getElem hs, h1]
theorem wanted_of {o : Oper} {j : Nat} {b v : Bool} {a : Act} (hg : o.guard = some (j, b)) (hy : yielded ops a.tmps j = some v) : Region.wanted o (yielded ops a.tmps) = (v == b) := by
  unfold Region.wanted
  rw [hg]
  simp [hy]
/-- Its guard itself was not wanted. -/
theorem wanted_un {o : Oper} {j d : Nat} {b : Bool} {a : Act} (hg : o.guard = some (j, b)) (hd : dstOf ops j = some d) (hs : d < a.tmps.size) (he : a.eval (.tmp d) = undef) : Region.wanted o (yielded ops a.tmps) = false := by
  have h1 : a.tmps.getD d undef = undef := he
  rw [Array.getD_eq_getD_getElem?, Array.getElem?_eq_getElem hs] at h1
  simp only [Option.getD_some] at h1
  have hy : yielded ops a.tmps j = none := by
    unfold yielded
    unfold dstOf at hd
    rw [hd]
    simp only [Option.bind_some, Array.getElem?_eq_getElem hs, h1]
    rfl
  unfold Region.wanted
  rw [hg]
  simp [hy]
/-- A guarded operation that is wanted and leaves the world alone. -/
theorem st_pureW {γ : Nat → Value} {listed : Array Bool} {a : Act} {w : World} {i d : Nat} {o : Oper} (hF : FrI ops (valG av val0 γ) a0 listed a) (hC : Clo ops listed) (hW : Wd (phase listed acts) γ w) (ho : ops[i]? = some o) (h2 : ∀ e ∈ o.after, Region.binds .any e = true → listed.getD e.on false = true)
    (hna : i ∉ acts) (hd : o.dst = some d) (hw : Region.wanted o (yielded ops a.tmps) = true) (hav : av d = none) (hrun : (execOp a.eval o).run Tryd.prog w = .ok (.value (val0 d)) w) : wpOp Tryd.prog ops Q i (fun a' w' => InvG ops acts av val0 Wd a0 (listed.setIfInBounds i true) a' w') a w := by
  have hi := hF.lt ho
  unfold wpOp
  rw [ho]
  simp only [hw, if_true]
  refine Or.inl ?_
  unfold Oper.wp
  rw [hrun]
  have e : valG av val0 γ d = val0 d := by unfold valG; rw [hav]
  refine ⟨γ, ?_, hC.set hi ho h2, by rw [phase_ne hi acts hna]; exact hW⟩
  have := hF.put ho hd
  rw [e] at this
  exact this
theorem st_callW {γ : Nat → Value} {listed : Array Bool} {a : Act} {w : World} {i d : Nat} {o : Oper} {f : FuncId} {args : Array Value} (hF : FrI ops (valG av val0 γ) a0 listed a) (hC : Clo ops listed) (hW : Wd (phase listed acts) γ w) (ho : ops[i]? = some o) (h2 : ∀ e ∈ o.after, Region.binds .any e = true → listed.getD e.on false = true)
    (hna : i ∉ acts) (hd : o.dst = some d) (hw : Region.wanted o (yielded ops a.tmps) = true) (hav : av d = none) (hrun : (execOp a.eval o).run Tryd.prog w = .ok (.enter f args) w) (hc : Calls Tryd.prog f args w fun e w' => e = .returned (val0 d) ∧ Kp w w') (hk : ∀ w', Kp w w' → Wd (phase listed acts) γ w') :
    wpOp Tryd.prog ops Q i (fun a' w' => InvG ops acts av val0 Wd a0 (listed.setIfInBounds i true) a' w') a w := by
  have hi := hF.lt ho
  unfold wpOp
  rw [ho]
  simp only [hw, if_true]
  refine Or.inl ?_
  unfold Oper.wp
  rw [hrun]
  have e : valG av val0 γ d = val0 d := by unfold valG; rw [hav]
  refine Calls.mono hc ?_
  rintro e' w' ⟨rfl, hkk⟩
  refine ⟨γ, ?_, hC.set hi ho h2, by rw [phase_ne hi acts hna]; exact hk w' hkk⟩
  have := hF.put ho hd
  rw [e] at this
  exact this
/-- A guarded operation that is not wanted. -/
theorem st_skipW {γ : Nat → Value} {listed : Array Bool} {a : Act} {w : World} {i d : Nat} {o : Oper} (hF : FrI ops (valG av val0 γ) a0 listed a) (hC : Clo ops listed) (hW : Wd (phase listed acts) γ w) (ho : ops[i]? = some o) (h2 : ∀ e ∈ o.after, Region.binds .any e = true → listed.getD e.on false = true)
    (hna : i ∉ acts) (hd : o.dst = some d) (hw : Region.wanted o (yielded ops a.tmps) = false) (hav : av d = none) (hv : val0 d = undef) : wpOp Tryd.prog ops Q i (fun a' w' => InvG ops acts av val0 Wd a0 (listed.setIfInBounds i true) a' w') a w := by
  have hi := hF.lt ho
  unfold wpOp
  rw [ho]
  simp only [hw, Bool.false_eq_true, if_false]
  have e : valG av val0 γ d = undef := by unfold valG; rw [hav]; exact hv
  refine ⟨γ, ?_, hC.set hi ho h2, by rw [phase_ne hi acts hna]; exact hW⟩
  have := hF.put ho hd
  rw [e] at this
  exact this
end
end Go.Proofs.YtnkmdmmlpidcmaaDoor
namespace Go.Proofs.YtnkmdmmlpidcmaaDoor
open Go.ChangeShapes Go.WideShapes Go.ChangeAt Go.RowKit
set_option linter.unusedVariables false

/-- What an operation reads. -/
def readsOf : Op → Option (List Operand)
  | .move x => some [x]
  | .assign x => some [x]
  | .nilCheck x => some [x]
  | .pick c a b => some [c, a, b]
  | .build _ ps => some (ps.toList.map (·.2))
  | .load _ a => some [a]
  | .binOp _ _ x y _ => some [x, y]
  | .unOp _ _ x => some [x]
  | .fieldAddr _ x _ => some [x]
  | .indexAddr _ x ix => some [x, ix]
  | .extract t _ => some [t]
  | .call c => match c.callee with
    | .builtin _ => some c.args.toList
    | _ => none
  | _ => none
theorem map_same {α β : Type} {f g : α → β} {l : Array α} (h : ∀ x ∈ l.toList, f x = g x) : l.map f = l.map g := by
  apply Array.ext'
  rw [Array.toList_map, Array.toList_map]
  exact List.map_congr_left h
theorem exec_same {ρ ρ' : Operand → Value} {o : Oper} {l : List Operand} (h : readsOf o.op = some l) (he : ∀ x ∈ l, ρ x = ρ' x) : execOp ρ o = execOp ρ' o := by
  unfold execOp
  cases ho : o.op <;> rw [ho] at h <;> simp only [readsOf, Option.some.injEq, reduceCtorEq] at h
  case build t ps =>
    subst h
    have e : ps.map (fun (p : Nat × Operand) => (p.1, ρ p.2)) = ps.map (fun (p : Nat × Operand) => (p.1, ρ' p.2)) := map_same fun x hx => by rw [he x.2 (List.mem_map.2 ⟨x, hx, rfl⟩)]
    show (do let x ← Instr.build t (ps.map (fun (p : Nat × Operand) => (p.1, ρ p.2))); pure (Next.value x) : Sem Next) = _
    rw [e]
  case call c =>
    cases hc : c.callee <;> rw [hc] at h <;> simp only [Option.some.injEq, reduceCtorEq] at h
    subst h
    have e : c.args.map ρ = c.args.map ρ' := map_same he
    simp only [resolve, hc, e]
  all_goals
    subst h
    simp only [List.mem_cons, List.not_mem_nil, or_false, forall_eq_or_imp, forall_eq] at he
    simp only [he]
/-- The values that operands stand for. -/
def envR (v : Nat → Value) : Operand → Value
  | .tmp n => v n
  | .const c => c
  | .global g => .pointer (some ⟨g, 0, none⟩)
  | .func f => .func (.func f) #[] #[]
/-- The value of an operand is known when operation i comes up. -/
def srcB (ops : Array Oper) (av : Nat → Option Nat) (ini : List Nat) (nt i : Nat) : Operand → Bool
  | .tmp n => decide (n < nt) && ((List.range ops.size).any (fun j => waitsB ops i j && decide (dstOf ops j = some n)) || (decide (n ∈ ini) && (av n).isNone && (List.range ops.size).all (fun j => dstOf ops j != some n)))
  | _ => true
def tri (o : Oper) : Option Nat × Op × Option (Nat × Bool) := (o.dst, o.op, o.guard)
section
variable {ops : Array Oper} {acts : List Nat} {av : Nat → Option Nat} {val0 : Nat → Value} {Wd : Nat → (Nat → Value) → World → Prop} {a0 : Act} {Q : Exit → Act → World → Prop} {L : List (Option Nat × Op × Option (Nat × Bool))} {ini : List Nat} {nt : Nat}
theorem fieldsL (hL : ops.toList.map tri = L) {i : Nat} {o : Oper} {x : Option Nat} {y : Op} {z : Option (Nat × Bool)} (h : L[i]? = some (x, y, z)) (ho : ops[i]? = some o) : o.dst = x ∧ o.op = y ∧ o.guard = z := by
  rw [← hL, List.getElem?_map, Array.getElem?_toList, ho] at h
  simp only [Option.map_some, Option.some.injEq, tri, Prod.mk.injEq] at h
  exact h
theorem dstL (hL : ops.toList.map tri = L) {i d : Nat} (h : (L[i]?).bind (·.1) = some d) : dstOf ops i = some d := by
  rw [← hL, List.getElem?_map, Array.getElem?_toList] at h
  unfold dstOf
  cases ho : ops[i]? with
  | none => rw [ho] at h; cases h
  | some o => rw [ho] at h; exact h
theorem known {γ : Nat → Value} {listed : Array Bool} {a : Act} {i : Nat} {o : Oper} (hF : FrI ops (valG av val0 γ) a0 listed a) (ho : ops[i]? = some o) (h2 : ∀ e ∈ o.after, Region.binds .any e = true → listed.getD e.on false = true)
    (hI : ∀ n ∈ ini, a0.eval (.tmp n) = val0 n) (hs : a0.tmps.size = nt) {x : Operand} (h : srcB ops av ini nt i x = true) : a.eval x = envR (valG av val0 γ) x := by
  cases x with
  | tmp n =>
    simp only [srcB, Bool.and_eq_true, Bool.or_eq_true, decide_eq_true_eq, List.any_eq_true] at h
    obtain ⟨hn, ⟨j, _, hw, hd⟩ | ⟨⟨hm, hv⟩, hno⟩⟩ := h
    · exact slotG hF ho h2 hw hd (by rw [hs]; exact hn)
    · rw [hF.eval0 hno, hI n hm]
      show val0 n = valG av val0 γ n
      unfold valG
      rw [Option.isNone_iff_eq_none.1 hv]
  | const c => rfl
  | global g => rfl
  | func f => rfl
def injK (ops : Array Oper) (av : Nat → Option Nat) (i k : Nat) : Bool := (List.range ops.size).all (fun j => decide (j = i) || !(match dstOf ops j with | some d => decide (av d = some k) | none => false))
theorem injG {listed : Array Bool} {i k : Nat} (h : injK ops av i k = true) (hu : listed.getD i false = false) : ∀ d, got ops listed d → av d ≠ some k := by
  rintro d ⟨j, h1, h2⟩ h3
  have hlt : j < ops.size := by
    rcases Nat.lt_or_ge j ops.size with h4 | h4
    · exact h4
    · unfold dstOf at h2; rw [Array.getElem?_eq_none h4] at h2; cases h2
  have h5 := List.all_eq_true.1 h j (List.mem_range.2 hlt)
  rw [h2] at h5
  simp only [h3, decide_true, Bool.not_true, Bool.or_false, decide_eq_true_eq] at h5
  subst h5
  rw [hu] at h1
  cases h1
/-- What is checked of an operation that only reads. -/
def plainB (ops : Array Oper) (acts : List Nat) (av : Nat → Option Nat) (ini : List Nat) (nt i d : Nat) (y : Op) : Bool :=
  decide (i ∉ acts) && (av d).isNone && match readsOf y with | some l => l.all (srcB ops av ini nt i) | none => false
theorem plain_run {γ : Nat → Value} {listed : Array Bool} {a : Act} {i d : Nat} {o : Oper} {y : Op} (hF : FrI ops (valG av val0 γ) a0 listed a) (ho : ops[i]? = some o) (h2 : ∀ e ∈ o.after, Region.binds .any e = true → listed.getD e.on false = true)
    (hI : ∀ n ∈ ini, a0.eval (.tmp n) = val0 n) (hs : a0.tmps.size = nt) (hop : o.op = y) (hk : plainB ops acts av ini nt i d y = true) : i ∉ acts ∧ av d = none ∧ execOp a.eval o = execOp (envR (valG av val0 γ)) o := by
  unfold plainB at hk
  simp only [Bool.and_eq_true, decide_eq_true_eq] at hk
  obtain ⟨⟨h3, h4⟩, h5⟩ := hk
  refine ⟨h3, Option.isNone_iff_eq_none.1 h4, ?_⟩
  cases hr : readsOf y with
  | none => rw [hr] at h5; cases h5
  | some l =>
    rw [hr] at h5
    rw [← hop] at hr
    exact exec_same hr fun x hx => known hF ho h2 hI hs (List.all_eq_true.1 h5 x hx)
/-- An operation that only reads. -/
theorem st_plain (hL : ops.toList.map tri = L) (hI : ∀ n ∈ ini, a0.eval (.tmp n) = val0 n) (hs : a0.tmps.size = nt) {i d : Nat} {y : Op} (hl : L[i]? = some (some d, y, none)) (hk : plainB ops acts av ini nt i d y = true)
    (hx : ∀ γ w n (o : Oper), Wd n γ w → o.op = y → (execOp (envR (valG av val0 γ)) o).run Tryd.prog w = .ok (.value (val0 d)) w) : StepG ops acts av val0 Wd a0 Q i := by
  intro γ listed a w o hF hC hW h1 ho h2
  obtain ⟨hd, hop, hg⟩ := fieldsL hL hl ho
  obtain ⟨h3, h4, h5⟩ := plain_run hF ho h2 hI hs hop hk
  exact st_pureG hF hC hW ho h2 h3 hd hg h4 (by rw [h5]; exact hx γ w _ o hW hop)
/-- A guarded one that is wanted. -/
theorem st_plainW (hL : ops.toList.map tri = L) (hI : ∀ n ∈ ini, a0.eval (.tmp n) = val0 n) (hs : a0.tmps.size = nt) {i d gj gs : Nat} {gb : Bool} {y : Op} (hl : L[i]? = some (some d, y, some (gj, gb))) (hj : (L[gj]?).bind (·.1) = some gs) (hv : val0 gs = .bool gb) (hk : ((av gs).isNone && srcB ops av ini nt i (.tmp gs) && plainB ops acts av ini nt i d y) = true)
    (hx : ∀ γ w n (o : Oper), Wd n γ w → o.op = y → (execOp (envR (valG av val0 γ)) o).run Tryd.prog w = .ok (.value (val0 d)) w) : StepG ops acts av val0 Wd a0 Q i := by
  intro γ listed a w o hF hC hW h1 ho h2
  obtain ⟨hd, hop, hg⟩ := fieldsL hL hl ho
  simp only [Bool.and_eq_true] at hk
  obtain ⟨⟨k1, k2⟩, k3⟩ := hk
  obtain ⟨h3, h4, h5⟩ := plain_run hF ho h2 hI hs hop k3
  have eg : a.eval (.tmp gs) = .bool gb := by
    rw [known hF ho h2 hI hs k2]
    show valG av val0 γ gs = _
    unfold valG
    rw [Option.isNone_iff_eq_none.1 k1]
    exact hv
  have hlt : gs < nt := by
    simp only [srcB, Bool.and_eq_true, decide_eq_true_eq] at k2
    exact k2.1
  have hw := wanted_of (ops := ops) hg (yl_of (dstL hL hj) (by rw [hF.tsize, hs]; exact hlt) eg)
  exact st_pureW hF hC hW ho h2 h3 hd (hw.trans (by simp)) h4 (by rw [h5]; exact hx γ w _ o hW hop)
/-- A guarded one that is not wanted. -/
theorem st_plainS (hL : ops.toList.map tri = L) (hI : ∀ n ∈ ini, a0.eval (.tmp n) = val0 n) (hs : a0.tmps.size = nt) {i d gj gs : Nat} {gb : Bool} {y : Op} (hl : L[i]? = some (some d, y, some (gj, gb))) (hj : (L[gj]?).bind (·.1) = some gs) (hv : val0 gs = .bool !gb ∨ val0 gs = undef) (hk : (decide (i ∉ acts) && (av d).isNone && (av gs).isNone && srcB ops av ini nt i (.tmp gs)) = true) (hu : val0 d = undef) : StepG ops acts av val0 Wd a0 Q i := by
  intro γ listed a w o hF hC hW h1 ho h2
  obtain ⟨hd, hop, hg⟩ := fieldsL hL hl ho
  simp only [Bool.and_eq_true, decide_eq_true_eq] at hk
  obtain ⟨⟨⟨h3, h4⟩, k1⟩, k2⟩ := hk
  have eg : a.eval (.tmp gs) = val0 gs := by
    rw [known hF ho h2 hI hs k2]
    show valG av val0 γ gs = _
    unfold valG
    rw [Option.isNone_iff_eq_none.1 k1]
  have hlt : gs < a.tmps.size := by
    simp only [srcB, Bool.and_eq_true, decide_eq_true_eq] at k2
    rw [hF.tsize, hs]
    exact k2.1
  have hw : Region.wanted o (yielded ops a.tmps) = false := by
    rcases hv with hv | hv <;> rw [hv] at eg
    · have h := wanted_of (ops := ops) hg (yl_of (dstL hL hj) hlt eg)
      rw [h]
      cases gb <;> rfl
    · exact wanted_un (ops := ops) hg (dstL hL hj) hlt eg
  exact st_skipW hF hC hW ho h2 h3 hd hw (Option.isNone_iff_eq_none.1 h4) hu
/-! ### Ahead of an acting one -/
def afterOf (ops : Array Oper) (k : Nat) : List Nat := match ops[k]? with | some o => (o.after.toList.filter (fun e => Region.binds .any e)).map (·.on) | none => []
theorem after_waits {k j : Nat} (h : j ∈ afterOf ops k) : waitsB ops k j = true := by
  unfold afterOf at h
  unfold waitsB
  cases ho : ops[k]? with
  | none => rw [ho] at h; cases h
  | some o =>
    rw [ho] at h
    obtain ⟨e, he, rfl⟩ := List.mem_map.1 h
    obtain ⟨h1, h2⟩ := List.mem_filter.1 he
    show (o.after.any _) = true
    rw [Array.any_eq_true]
    obtain ⟨x, hx, hxe⟩ := List.getElem_of_mem h1
    refine ⟨x, by simpa using hx, ?_⟩
    have e1 : o.after[x]'(by simpa using hx) = e := by simpa using hxe
    rw [e1]
    simp [h2]
/-- What operations below k wait for, those of l among them. -/
def ancs (ops : Array Oper) : Nat → List Nat → List Nat
  | 0, l => l
  | k + 1, l => ancs ops k (if k ∈ l then l ++ afterOf ops k else l)
theorem ancs_listed {listed : Array Bool} (hC : Clo ops listed) : ∀ (k : Nat) (l : List Nat), (∀ j ∈ l, listed.getD j false = true) → ∀ j ∈ ancs ops k l, listed.getD j false = true
  | 0, _, h, j, hj => h j hj
  | k + 1, l, h, j, hj => by
    refine ancs_listed hC k _ ?_ j hj
    intro x hx
    by_cases hk : k ∈ l
    · rw [if_pos hk] at hx
      rcases List.mem_append.1 hx with h1 | h1
      · exact h x h1
      · exact hC k x (h k hk) (after_waits h1)
    · rw [if_neg hk] at hx
      exact h x hx
def aheadB (ops : Array Oper) (acts : List Nat) (m i : Nat) : Bool := match acts[m]? with | some x => decide (i ∈ ancs ops (x + 1) [x]) | none => false
theorem phase_leM {listed : Array Bool} {i m : Nat} (hC : Clo ops listed) (hu : listed.getD i false = false) (h : aheadB ops acts m i = true) : phase listed acts ≤ m := by
  unfold aheadB at h
  cases hm : acts[m]? with
  | none => rw [hm] at h; cases h
  | some x =>
    rw [hm] at h
    refine phase_at acts m x hm ?_
    cases hl : listed.getD x false with
    | false => rfl
    | true =>
      have := ancs_listed hC (x + 1) [x] (fun j hj => by rw [List.mem_singleton.1 hj]; exact hl) i (of_decide_eq_true h)
      rw [hu] at this
      cases this
/-- An operation that only reads, ahead of the acting one number m. -/
theorem st_plainM {m : Nat} (hL : ops.toList.map tri = L) (hI : ∀ n ∈ ini, a0.eval (.tmp n) = val0 n) (hs : a0.tmps.size = nt) {i d : Nat} {y : Op} (hl : L[i]? = some (some d, y, none)) (hk : (aheadB ops acts m i && plainB ops acts av ini nt i d y) = true)
    (hx : ∀ γ w n (o : Oper), n ≤ m → Wd n γ w → o.op = y → (execOp (envR (valG av val0 γ)) o).run Tryd.prog w = .ok (.value (val0 d)) w) : StepG ops acts av val0 Wd a0 Q i := by
  intro γ listed a w o hF hC hW h1 ho h2
  obtain ⟨hd, hop, hg⟩ := fieldsL hL hl ho
  rw [Bool.and_eq_true] at hk
  obtain ⟨h3, h4, h5⟩ := plain_run hF ho h2 hI hs hop hk.2
  exact st_pureG hF hC hW ho h2 h3 hd hg h4 (by rw [h5]; exact hx γ w _ o (phase_leM hC (unl (hF.lt ho) h1) hk.1) hW hop)
def callB (ops : Array Oper) (acts : List Nat) (av : Nat → Option Nat) (ini : List Nat) (nt i d : Nat) (args : Array Operand) : Bool :=
  decide (i ∉ acts) && (av d).isNone && args.toList.all (srcB ops av ini nt i)
theorem call_run {γ : Nat → Value} {listed : Array Bool} {a : Act} {w : World} {i d : Nat} {o : Oper} {f : FuncId} {args : Array Operand} {ts : Array TypeId} (hF : FrI ops (valG av val0 γ) a0 listed a) (ho : ops[i]? = some o) (h2 : ∀ e ∈ o.after, Region.binds .any e = true → listed.getD e.on false = true)
    (hI : ∀ n ∈ ini, a0.eval (.tmp n) = val0 n) (hs : a0.tmps.size = nt) (hop : o.op = .call { callee := .value (.func f), args := args, argTypes := ts }) (hk : callB ops acts av ini nt i d args = true) (hf : ∀ v w, (callFunc f v).run Tryd.prog w = .ok (.enter f v) w) :
    i ∉ acts ∧ av d = none ∧ (execOp a.eval o).run Tryd.prog w = .ok (.enter f (args.toList.map (envR (valG av val0 γ))).toArray) w := by
  unfold callB at hk
  simp only [Bool.and_eq_true, decide_eq_true_eq] at hk
  obtain ⟨⟨h3, h4⟩, h5⟩ := hk
  refine ⟨h3, Option.isNone_iff_eq_none.1 h4, ?_⟩
  have e : args.map a.eval = (args.toList.map (envR (valG av val0 γ))).toArray := by
    apply Array.ext'
    rw [Array.toList_map]
    exact List.map_congr_left fun x hx => known hF ho h2 hI hs (List.all_eq_true.1 h5 x hx)
  rw [← e]
  have ef : a.eval (.func f) = .func (.func f) #[] #[] := rfl
  generalize a.eval = ρ at ef ⊢
  unfold execOp
  rw [hop]
  simp [ef, hf, go_sem]
/-- A call that makes memory at most. -/
theorem st_callK (hL : ops.toList.map tri = L) (hI : ∀ n ∈ ini, a0.eval (.tmp n) = val0 n) (hs : a0.tmps.size = nt) {i d : Nat} {f : FuncId} {args : Array Operand} {ts : Array TypeId} (hl : L[i]? = some (some d, .call { callee := .value (.func f), args := args, argTypes := ts }, none)) (hk : callB ops acts av ini nt i d args = true) (hf : ∀ v w, (callFunc f v).run Tryd.prog w = .ok (.enter f v) w)
    (hx : ∀ γ w n, Wd n γ w → Calls Tryd.prog f (args.toList.map (envR (valG av val0 γ))).toArray w fun e w' => e = .returned (val0 d) ∧ Kp w w') (hp : ∀ γ w n w', Wd n γ w → Kp w w' → Wd n γ w') : StepG ops acts av val0 Wd a0 Q i := by
  intro γ listed a w o hF hC hW h1 ho h2
  obtain ⟨hd, hop, hg⟩ := fieldsL hL hl ho
  obtain ⟨h3, h4, h5⟩ := call_run (w := w) hF ho h2 hI hs hop hk hf
  exact st_callG hF hC hW ho h2 h3 hd hg h4 h5 (hx γ w _ hW) (fun w' => hp γ w _ w' hW)
/-- The same ahead of all acting ones. -/
theorem st_callZ (hL : ops.toList.map tri = L) (hI : ∀ n ∈ ini, a0.eval (.tmp n) = val0 n) (hs : a0.tmps.size = nt) {i d : Nat} {f : FuncId} {args : Array Operand} {ts : Array TypeId} (hl : L[i]? = some (some d, .call { callee := .value (.func f), args := args, argTypes := ts }, none)) (hk : (aheadB ops acts 0 i && callB ops acts av ini nt i d args) = true) (hf : ∀ v w, (callFunc f v).run Tryd.prog w = .ok (.enter f v) w)
    (hx : ∀ γ w, Wd 0 γ w → Calls Tryd.prog f (args.toList.map (envR (valG av val0 γ))).toArray w fun e w' => e = .returned (val0 d) ∧ Kp w w') (hp : ∀ γ w w', Wd 0 γ w → Kp w w' → Wd 0 γ w') : StepG ops acts av val0 Wd a0 Q i := by
  intro γ listed a w o hF hC hW h1 ho h2
  obtain ⟨hd, hop, hg⟩ := fieldsL hL hl ho
  rw [Bool.and_eq_true] at hk
  obtain ⟨h3, h4, h5⟩ := call_run (w := w) hF ho h2 hI hs hop hk.2 hf
  have hz : phase listed acts = 0 := Nat.le_zero.1 (phase_leM hC (unl (hF.lt ho) h1) hk.1)
  refine st_callG hF hC hW ho h2 h3 hd hg h4 h5 (hx γ w (by rw [hz] at hW; exact hW)) (fun w' hk' => ?_)
  rw [hz] at hW ⊢
  exact hp γ w w' hW hk'
theorem end_at {a b : Act} {w : World} (h : Q .normal a w) (e : b = a) : Q .normal b w := by rw [e]; exact h
end
end Go.Proofs.YtnkmdmmlpidcmaaDoor
namespace Go.Proofs.YtnkmdmmlpidcmaaDoor
open Go.ChangeShapes Go.WideShapes Go.ChangeAt Go.RowKit
set_option linter.unusedVariables false

structure SP22 where
 bx : Nat
 p : ByteArray
 q : ByteArray
 va : Option Addr
 vc : Nat
 l : List ByteArray
 s : ByteArray
 k : Nat
 n : Nat
 W : World
 a0 : Act
structure SP22Ok (X : SP22) : Prop where
 cb : CvP X.bx X.W X.p X.q (.slice X.va X.l.length X.vc) X.l
 len : X.l.length ≤ 2000000
 w1 : IntKind.i64.wrap ((X.k : Int) + 1) = (X.k : Int) + 1
 w2 : IntKind.i64.wrap ((X.k : Int) + 1 + (X.n : Int)) = (X.k : Int) + 1 + (X.n : Int)
 hk : X.k + 1 + X.n ≤ X.s.size
 c1 : (0 : Int) ≤ (X.k : Int) + 1
 c2 : (X.k : Int) + 1 ≤ (X.k : Int) + 1 + (X.n : Int)
 c3 : (X.k : Int) + 1 + (X.n : Int) ≤ (X.s.size : Int)
 t1 : ((X.k : Int) + 1).toNat = X.k + 1
 t2 : ((X.k : Int) + 1 + (X.n : Int)).toNat = X.k + 1 + X.n
 e0 : X.a0.eval (.tmp 0) = .string X.s
 e4 : X.a0.eval (.tmp 4) = .pointer (some ⟨X.bx, 0, none⟩)
 e5 : X.a0.eval (.tmp 5) = .int .i64 (X.k : Int)
 e8 : X.a0.eval (.tmp 8) = .int .i64 (X.n : Int)
 sz : X.a0.tmps.size = 103
def SP22.val0 (X : SP22) : Nat → Value
 | 0 => .string X.s
 | 4 => .pointer (some ⟨X.bx, 0, none⟩)
 | 5 => .int .i64 (X.k : Int)
 | 8 => .int .i64 (X.n : Int)
 | 81 => .pointer (some ⟨X.bx, 2, none⟩)
 | 82 => .slice X.va X.l.length X.vc
 | 83 => .string X.s
 | 84 => .int .i64 (X.k : Int)
 | 85 => .int .i64 ((X.k : Int) + 1)
 | 86 => .int .i64 (X.k : Int)
 | 87 => .int .i64 ((X.k : Int) + 1)
 | 88 => .int .i64 (X.n : Int)
 | 89 => .int .i64 ((X.k : Int) + 1 + (X.n : Int))
 | 90 => .string (X.s.extract (X.k + 1) (X.k + 1 + X.n))
 | 93 => .pointer (some ⟨X.bx, 2, none⟩)
 | _ => undef
def SP22.av : Nat → Option Nat
 | 91 => some 0
 | 92 => some 1
 | _ => none
def SP22.acts : List Nat := [10, 11, 13]
/-- The world, by how many of the acting ones have come up. -/
def SP22.Wd (X : SP22) : Nat → (Nat → Value) → World → Prop
  | 0, _, w => Nw X.W w
  | 1, γ, w => ∃ w1, Nw X.W w1 ∧ γ 0 = .slice (some ⟨w1.heap.size, 0, none⟩) 1 1 ∧ w = w1.alloc (.cells #[.string (X.s.extract (X.k + 1) (X.k + 1 + X.n))] 9)
  | 2, γ, w => ∃ w1, Nw X.W w1 ∧ Txs w (X.bx + 1) (γ 1) (X.l ++ [X.s.extract (X.k + 1) (X.k + 1 + X.n)]) ∧ Ext (.slice X.va X.l.length X.vc) (γ 1) w1 w
  | _, γ, w => ∃ w1 w2, Nw X.W w1 ∧ Txs w2 (X.bx + 1) (γ 1) (X.l ++ [X.s.extract (X.k + 1) (X.k + 1 + X.n)]) ∧ Ext (.slice X.va X.l.length X.vc) (γ 1) w1 w2 ∧ w = w2.setCell ⟨X.bx, 2, none⟩ (γ 1)
theorem SP22.chain : chainG (opsOf 22 Tryd.f61) SP22.acts = true := by kernel_rfl
theorem SP22.nodup : SP22.acts.Nodup := by decide
def SP22.L : List (Option Nat × Op × Option (Nat × Bool)) := [
 (some 81, .fieldAddr 56 (.tmp 4) 2, none),
 (some 82, .load 52 (.tmp 81), none),
 (some 83, .move (.tmp 0), none),
 (some 84, .move (.tmp 5), none),
 (some 85, .binOp .add 3 (.tmp 84) (.const (.int .i64 1)) 3, none),
 (some 86, .move (.tmp 5), none),
 (some 87, .binOp .add 3 (.tmp 86) (.const (.int .i64 1)) 3, none),
 (some 88, .move (.tmp 8), none),
 (some 89, .binOp .add 3 (.tmp 87) (.tmp 88) 3, none),
 (some 90, .slice 9 (.tmp 83) (some (.tmp 85)) (some (.tmp 89)) none, none),
 (some 91, .buildSlice 52 1 #[(0, (.tmp 90))], none),
 (some 92, .call { callee := .builtin .append, args := #[(.tmp 82), (.tmp 91)], argTypes := #[52, 52] }, none),
 (some 93, .fieldAddr 56 (.tmp 4) 2, none),
 (none, .store 52 (.tmp 93) (.tmp 92), none)]
theorem SP22.isL : (opsOf 22 Tryd.f61).toList.map tri = SP22.L := by kernel_rfl
theorem SP22.ini {X : SP22} (ok : SP22Ok X) : ∀ n ∈ [0, 4, 5, 8], X.a0.eval (.tmp n) = X.val0 n := by
 simp only [List.forall_mem_cons]
 exact ⟨ok.e0, ok.e4, ok.e5, ok.e8, List.forall_mem_nil _⟩
abbrev SP22.St (X : SP22) (Q : Exit → Act → World → Prop) (i : Nat) : Prop := StepG (opsOf 22 Tryd.f61) SP22.acts SP22.av X.val0 X.Wd X.a0 Q i
theorem SP22.plain (X : SP22) (ok : SP22Ok X) {Q : Exit → Act → World → Prop} : ∀ i ∈ [0, 2, 3, 4, 5, 6, 7, 8, 12], SP22.St X Q i := by
 simp only [List.forall_mem_cons]
 refine ⟨?_, ?_, ?_, ?_, ?_, ?_, ?_, ?_, ?_, List.forall_mem_nil _⟩
 all_goals
  refine st_plain SP22.isL (SP22.ini ok) ok.sz rfl (by kernel_rfl) ?_
  intro γ w n o hW hop
  unfold execOp
  rw [hop]
  simp [envR, valG, SP22.av, SP22.val0, ok.w1, ok.w2, go_sem]
theorem SP22.s1 (X : SP22) (ok : SP22Ok X) {Q : Exit → Act → World → Prop} : SP22.St X Q 1 := by
 intro γ listed a w o hF hC hW h1 ho h2
 obtain ⟨hd, hop, hg⟩ := fieldsL SP22.isL (i := 1) rfl ho
 have e81 : a.eval (.tmp 81) = .pointer (some ⟨X.bx, 2, none⟩) := known hF ho h2 (SP22.ini ok) ok.sz (by kernel_rfl)
 have hph := phase_leG (acts := SP22.acts) (m := 1) (x := 11) hC (unl (hF.lt ho) h1) rfl [1] (by kernel_rfl) (by decide)
 have hWW := hW
 generalize phase listed SP22.acts = n at hph hWW
 have hk : Nw X.W w := by
  rcases (show n = 0 ∨ n = 1 by omega) with rfl | rfl
  ·exact hWW
  ·obtain ⟨w1, k1, _, rfl⟩ := hWW
   exact Nw.trans k1 ((Below.refl _ _).alloc (Nat.le_refl _) _)
 have hc := (ok.cb.nw hk).c2
 refine st_pureG hF hC hW ho h2 (by decide) hd hg rfl ?_
 show _ = Result.ok (Next.value (.slice X.va X.l.length X.vc)) w
 generalize a.eval = ρ at e81 ⊢
 unfold execOp
 rw [hop]
 simp [e81, hc, go_sem]
theorem SP22.s9 (X : SP22) (ok : SP22Ok X) {Q : Exit → Act → World → Prop} : SP22.St X Q 9 := by
 intro γ listed a w o hF hC hW h1 ho h2
 obtain ⟨hd, hop, hg⟩ := fieldsL SP22.isL (i := 9) rfl ho
 have e83 : a.eval (.tmp 83) = .string X.s := known hF ho h2 (SP22.ini ok) ok.sz (by kernel_rfl)
 have e85 : a.eval (.tmp 85) = .int .i64 ((X.k : Int) + 1) := known hF ho h2 (SP22.ini ok) ok.sz (by kernel_rfl)
 have e89 : a.eval (.tmp 89) = .int .i64 ((X.k : Int) + 1 + (X.n : Int)) := known hF ho h2 (SP22.ini ok) ok.sz (by kernel_rfl)
 refine st_pureG hF hC hW ho h2 (by decide) hd hg rfl ?_
 show _ = Result.ok (Next.value (.string (X.s.extract (X.k + 1) (X.k + 1 + X.n)))) w
 generalize a.eval = ρ at e83 e85 e89 ⊢
 unfold execOp
 rw [hop]
 simp [e83, e85, e89, ok.c1, ok.c2, ok.c3, ok.t1, ok.t2, go_sem]
theorem SP22.s10 (X : SP22) (ok : SP22Ok X) {Q : Exit → Act → World → Prop} : SP22.St X Q 10 := by
 intro γ listed a w o hF hC hW h1 ho h2
 obtain ⟨hd, hop, hg⟩ := fieldsL SP22.isL (i := 10) rfl ho
 have e90 : a.eval (.tmp 90) = .string (X.s.extract (X.k + 1) (X.k + 1 + X.n)) := known hF ho h2 (SP22.ini ok) ok.sz (by kernel_rfl)
 have hu := unl (hF.lt ho) h1
 refine st_actG (k := 0) SP22.chain SP22.nodup rfl hF hC hW h1 ho h2 (Or.inr ⟨91, hd, rfl⟩) (injG (by kernel_rfl) hu) hg ?_
 intro hW0 K hK
 have k0 : Nw X.W w := hW0
 have hr : (execOp a.eval o).run Tryd.prog w = .ok (.value (.slice (some ⟨w.heap.size, 0, none⟩) 1 1)) (w.alloc (.cells #[.string (X.s.extract (X.k + 1) (X.k + 1 + X.n))] 9)) := by
  generalize a.eval = ρ at e90 ⊢
  unfold execOp
  rw [hop]
  simp [e90, go_sem]
 unfold Oper.wp
 rw [hr]
 exact hK _ _ ⟨w, k0, rfl, rfl⟩
theorem SP22.s11 (X : SP22) (ok : SP22Ok X) {Q : Exit → Act → World → Prop} : SP22.St X Q 11 := by
 intro γ listed a w o hF hC hW h1 ho h2
 obtain ⟨hd, hop, hg⟩ := fieldsL SP22.isL (i := 11) rfl ho
 have e82 : a.eval (.tmp 82) = .slice X.va X.l.length X.vc := known hF ho h2 (SP22.ini ok) ok.sz (by kernel_rfl)
 have e91 : a.eval (.tmp 91) = γ 0 := known hF ho h2 (SP22.ini ok) ok.sz (by kernel_rfl)
 have hu := unl (hF.lt ho) h1
 refine st_actG (k := 1) SP22.chain SP22.nodup rfl hF hC hW h1 ho h2 (Or.inr ⟨92, hd, rfl⟩) (injG (by kernel_rfl) hu) hg ?_
 intro hW0 K hK
 obtain ⟨w1, k1, g0, rfl⟩ := hW0
 rw [g0] at e91
 have lb := ok.cb.nw k1
 have n1 : Nw w1 (w1.alloc (.cells #[.string (X.s.extract (X.k + 1) (X.k + 1 + X.n))] 9)) := (Below.refl _ _).alloc (Nat.le_refl _) _
 refine wpk_tx _ (.tmp 82) (.tmp 91) hop (X.bx + 1) (.slice X.va X.l.length X.vc) X.l (X.s.extract (X.k + 1) (X.k + 1 + X.n)) e82 (lb.own.nw n1) w1.heap.size e91 (by simp) (by have := ok.len; omega) (by have := lb.lt; simp; omega) ?_
 intro v' w' h3 h4
 exact hK _ _ ⟨w1, k1, h3, n1.ext h4⟩
theorem SP22.s13 (X : SP22) (ok : SP22Ok X) {Q : Exit → Act → World → Prop} : SP22.St X Q 13 := by
 intro γ listed a w o hF hC hW h1 ho h2
 obtain ⟨hd, hop, hg⟩ := fieldsL SP22.isL (i := 13) rfl ho
 have e93 : a.eval (.tmp 93) = .pointer (some ⟨X.bx, 2, none⟩) := known hF ho h2 (SP22.ini ok) ok.sz (by kernel_rfl)
 have e92 : a.eval (.tmp 92) = γ 1 := known hF ho h2 (SP22.ini ok) ok.sz (by kernel_rfl)
 have hu := unl (hF.lt ho) h1
 refine st_actG (k := 2) SP22.chain SP22.nodup rfl hF hC hW h1 ho h2 (Or.inl hd) (injG (by kernel_rfl) hu) hg ?_
 intro hW0 K hK
 obtain ⟨w1, k1, o1, x1⟩ := hW0
 obtain ⟨t0, tf⟩ := (ok.cb.nw k1).there x1
 obtain ⟨sa, sc, g1⟩ := o1.slice
 have hr : (execOp a.eval o).run Tryd.prog w = .ok .skip (w.setCell ⟨X.bx, 2, none⟩ (γ 1)) := by
  rw [g1] at e92 ⊢
  generalize a.eval = ρ at e92 e93 ⊢
  unfold execOp
  rw [hop]
  simp [e92, e93, t0, tf, go_sem]
 unfold Oper.wp
 rw [hr]
 exact hK _ _ ⟨w1, w, k1, o1, x1, rfl⟩
theorem SP22.size : (opsOf 22 Tryd.f61).size = 14 := by kernel_rfl
theorem SP22.rest (X : SP22) (ok : SP22Ok X) {Q : Exit → Act → World → Prop} : ∀ i ∈ [1, 9, 10, 11, 13], SP22.St X Q i := by
 simp only [List.forall_mem_cons]
 exact ⟨SP22.s1 X ok,
  SP22.s9 X ok,
  SP22.s10 X ok,
  SP22.s11 X ok,
  SP22.s13 X ok, List.forall_mem_nil _⟩
theorem SP22.steps (X : SP22) (ok : SP22Ok X) {Q : Exit → Act → World → Prop} (i : Nat) (hi : i < (opsOf 22 Tryd.f61).size) : SP22.St X Q i := by
 rw [SP22.size] at hi
 rcases (by decide : ∀ i, i < 14 → i ∈ [0, 2, 3, 4, 5, 6, 7, 8, 12] ∨ i ∈ [1, 9, 10, 11, 13]) i hi with h | h
 · exact SP22.plain X ok i h
 · exact SP22.rest X ok i h
/-- The region, whatever order comes up. -/
theorem SP22.run (X : SP22) (ok : SP22Ok X) {Q : Exit → Act → World → Prop} (w : World) (h0 : X.Wd 0 (fun _ => undef) w.drew) (hend : ∀ (γ : Nat → Value) w', X.Wd 3 γ w' → Q .normal (((((((((((((X.a0.put (some 81) (.pointer (some ⟨X.bx, 2, none⟩))).put (some 82) (.slice X.va X.l.length X.vc)).put (some 83) (.string X.s)).put (some 84) (.int .i64 (X.k : Int))).put (some 85) (.int .i64 ((X.k : Int) + 1))).put (some 86) (.int .i64 (X.k : Int))).put (some 87) (.int .i64 ((X.k : Int) + 1))).put (some 88) (.int .i64 (X.n : Int))).put (some 89) (.int .i64 ((X.k : Int) + 1 + (X.n : Int)))).put (some 90) (.string (X.s.extract (X.k + 1) (X.k + 1 + X.n)))).put (some 91) (γ 0)).put (some 92) (γ 1)).put (some 93) (.pointer (some ⟨X.bx, 2, none⟩))) w') : (Code.region 22 (opsOf 22 Tryd.f61) true).wp Tryd.prog Q X.a0 w := by
 refine reg_act (acts := SP22.acts) (av := SP22.av) (val0 := X.val0) (Wd := X.Wd) (by kernel_rfl) (by kernel_rfl) (by rw [SP22.size]; decide) (fun i hi => SP22.steps X ok i hi) _ h0 ?_
 intro γ w' h
 exact end_at (hend γ w' h) (by kernel_rfl)
end Go.Proofs.YtnkmdmmlpidcmaaDoor
