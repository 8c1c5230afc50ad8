/-
  What is reached by steps, on numbers: made closed one number after the other, and looked for from one number on; each theorem names its conditions.
-/
import Derived.ProofKit
namespace Go.Proofs.YthnmebmjmjfflaaDoor
set_option linter.unusedVariables false

/-- From k to i by f + 1 steps of R, all on the way below m. -/
def Pth (R : Nat → Nat → Bool) (m : Nat) : Nat → Nat → Nat → Prop
  | 0, k, i => R k i = true
  | f + 1, k, i => ∃ j, j < m ∧ R k j = true ∧ Pth R m f j i
def Rch (R : Nat → Nat → Bool) (m : Nat) (k i : Nat) : Prop := ∃ f, Pth R m f k i
theorem Rch.one {R : Nat → Nat → Bool} {m k i : Nat} (h : R k i = true) : Rch R m k i := ⟨0, h⟩
theorem Rch.step {R : Nat → Nat → Bool} {m k j i : Nat} (h : R k j = true) (hj : j < m) (hr : Rch R m j i) : Rch R m k i := by
  obtain ⟨f, hf⟩ := hr
  exact ⟨f + 1, j, hj, h, hf⟩
theorem Rch.more {R : Nat → Nat → Bool} {m n : Nat} (hmn : m ≤ n) {k i : Nat} (h : Rch R m k i) : Rch R n k i := by
  obtain ⟨f, hf⟩ := h
  induction f generalizing k with
  | zero => exact Rch.one hf
  | succ f ih =>
    obtain ⟨j, hj, hk, hr⟩ := hf
    exact Rch.step hk (by omega) (ih hr)
theorem Rch.join {R : Nat → Nat → Bool} {m k j i : Nat} (hj : j < m) (h1 : Rch R m k j) (h2 : Rch R m j i) : Rch R m k i := by
  obtain ⟨f, hf⟩ := h1
  induction f generalizing k with
  | zero => exact Rch.step hf hj h2
  | succ f ih =>
    obtain ⟨x, hx, hk, hr⟩ := hf
    exact Rch.step hk hx (ih hr)
/-- Made closed by way of the numbers below m. -/
def wa (R : Nat → Nat → Bool) : Nat → Nat → Nat → Bool
  | 0, k, i => R k i
  | m + 1, k, i => wa R m k i || (wa R m k m && wa R m m i)
theorem wa_sound (R : Nat → Nat → Bool) : ∀ (m k i : Nat), wa R m k i = true → Rch R m k i := by
  intro m
  induction m with
  | zero => intro k i h; exact Rch.one h
  | succ m ih =>
    intro k i h
    rw [wa, Bool.or_eq_true, Bool.and_eq_true] at h
    rcases h with h | ⟨h1, h2⟩
    · exact (ih k i h).more (Nat.le_succ _)
    · exact Rch.join (Nat.lt_succ_self _) ((ih _ _ h1).more (Nat.le_succ _)) ((ih _ _ h2).more (Nat.le_succ _))
theorem Rch.part {R : Nat → Nat → Bool} {m k i : Nat} (h : Rch R (m + 1) k i) : Rch R m k i ∨ (Rch R m k m ∧ Rch R m m i) := by
  obtain ⟨f, hf⟩ := h
  induction f generalizing k with
  | zero => exact Or.inl (Rch.one hf)
  | succ f ih =>
    obtain ⟨j, hj, hk, hr⟩ := hf
    have h := ih hr
    by_cases e : j = m
    · subst e
      refine Or.inr ⟨Rch.one hk, ?_⟩
      rcases h with h | h
      · exact h
      · exact h.2
    · have hj2 : j < m := by omega
      rcases h with h | h
      · exact Or.inl (Rch.step hk hj2 h)
      · exact Or.inr ⟨Rch.step hk hj2 h.1, h.2⟩
theorem wa_full (R : Nat → Nat → Bool) : ∀ (m k i : Nat), Rch R m k i → wa R m k i = true := by
  intro m
  induction m with
  | zero =>
    intro k i ⟨f, hf⟩
    cases f with
    | zero => exact hf
    | succ f => obtain ⟨j, hj, _⟩ := hf; omega
  | succ m ih =>
    intro k i h
    rw [wa, Bool.or_eq_true, Bool.and_eq_true]
    rcases h.part with h | ⟨h1, h2⟩
    · exact Or.inl (ih _ _ h)
    · exact Or.inr ⟨ih _ _ h1, ih _ _ h2⟩
theorem wa_iff (R : Nat → Nat → Bool) (m k i : Nat) : wa R m k i = true ↔ Rch R m k i := ⟨wa_sound R m k i, wa_full R m k i⟩
/-- Through m the row of m itself stays. -/
theorem wa_self (R : Nat → Nat → Bool) (m i : Nat) : wa R (m + 1) m i = wa R m m i := by
  rw [wa]; cases wa R m m i <;> cases wa R m m m <;> rfl
/-- Whether one below n is reached from itself. -/
def cycB (R : Nat → Nat → Bool) (n : Nat) : Bool := (List.range n).any fun k => wa R n k k
theorem cycB_no {R : Nat → Nat → Bool} {n : Nat} (h : ∀ k, k < n → ¬ Rch R n k k) : cycB R n = false := by
  unfold cycB
  rw [List.any_eq_false]
  intro k hk
  rw [List.mem_range] at hk
  rw [wa_iff]
  exact h k hk
theorem cycB_yes {R : Nat → Nat → Bool} {n k : Nat} (hk : k < n) (h : Rch R n k k) : cycB R n = true := by
  unfold cycB
  rw [List.any_eq_true]
  exact ⟨k, List.mem_range.2 hk, (wa_iff R n k k).2 h⟩
/-- Looked for from k on: what has been seen, and what is still to be looked at. -/
structure Srch (R : Nat → Nat → Bool) (n k : Nat) (seen : Nat → Bool) (todo : List Nat) : Prop where
  lt : ∀ x, x ∈ todo → x < n
  from' : ∀ x, x ∈ todo → Rch R n k x
  self : seen k = false
  first : ∀ i, R k i = true → seen i = true ∨ i ∈ todo
  next : ∀ x i, seen x = true → R x i = true → seen i = true ∨ i ∈ todo
theorem Srch.done {R : Nat → Nat → Bool} {n k : Nat} {seen : Nat → Bool} (h : Srch R n k seen []) : ¬ Rch R n k k := by
  have key : ∀ f j, (∀ i, R j i = true → seen i = true) → ∀ i, Pth R n f j i → seen i = true := by
    intro f
    induction f with
    | zero => intro j hj i hp; exact hj i hp
    | succ f ih =>
      intro j hj i hp
      obtain ⟨x, _, hx, hp⟩ := hp
      have hs := hj x hx
      refine ih x (fun y hy => ?_) i hp
      rcases h.next x y hs hy with h | h
      · exact h
      · cases h
  rintro ⟨f, hf⟩
  have := key f k (fun i hi => by
    rcases h.first i hi with h | h
    · exact h
    · cases h) k hf
  rw [h.self] at this
  cases this
theorem Srch.hit {R : Nat → Nat → Bool} {n k : Nat} {seen : Nat → Bool} {todo : List Nat} (h : Srch R n k seen (k :: todo)) : Rch R n k k := h.from' k (by simp)
theorem Srch.pass {R : Nat → Nat → Bool} {n k x : Nat} {seen : Nat → Bool} {todo : List Nat} (h : Srch R n k seen (x :: todo)) (hs : seen x = true) : Srch R n k seen todo := by
  refine ⟨fun y hy => h.lt y (by simp [hy]), fun y hy => h.from' y (by simp [hy]), h.self, fun i hi => ?_, fun y i hy hi => ?_⟩
  · rcases h.first i hi with h | h
    · exact Or.inl h
    · rcases List.mem_cons.1 h with e | h
      · subst e; exact Or.inl hs
      · exact Or.inr h
  · rcases h.next y i hy hi with h | h
    · exact Or.inl h
    · rcases List.mem_cons.1 h with e | h
      · subst e; exact Or.inl hs
      · exact Or.inr h
theorem Srch.take {R : Nat → Nat → Bool} {n k x : Nat} {seen seen' : Nat → Bool} {todo more : List Nat} (h : Srch R n k seen (x :: todo)) (hx : x ≠ k) (hm : ∀ i, i ∈ more ↔ R x i = true) (hn : ∀ i, R x i = true → i < n)
    (hs : ∀ i, seen' i = (decide (i = x) || seen i)) : Srch R n k seen' (todo ++ more) := by
  have hrx := h.from' x (by simp)
  have hxn := h.lt x (by simp)
  have up : ∀ i, (seen i = true ∨ i ∈ x :: todo) → seen' i = true ∨ i ∈ todo ++ more := by
    intro i hi
    rcases hi with hi | hi
    · exact Or.inl (by rw [hs, hi, Bool.or_true])
    · rcases List.mem_cons.1 hi with e | hi
      · exact Or.inl (by rw [hs, decide_eq_true e, Bool.true_or])
      · exact Or.inr (List.mem_append_left _ hi)
  refine ⟨fun y hy => ?_, fun y hy => ?_, ?_, fun i hi => up i (h.first i hi), fun y i hy hi => ?_⟩
  · rcases List.mem_append.1 hy with hy | hy
    · exact h.lt y (by simp [hy])
    · exact hn y ((hm y).1 hy)
  · rcases List.mem_append.1 hy with hy | hy
    · exact h.from' y (by simp [hy])
    · exact Rch.join hxn hrx (Rch.one ((hm y).1 hy))
  · rw [hs, h.self, decide_eq_false (fun e => hx e.symm)]; rfl
  · rw [hs, Bool.or_eq_true, decide_eq_true_eq] at hy
    rcases hy with e | hy
    · subst e; exact Or.inr (List.mem_append_right _ ((hm i).2 hi))
    · exact up i (h.next y i hy hi)
theorem Srch.start {R : Nat → Nat → Bool} {n k : Nat} {more : List Nat} (hm : ∀ i, i ∈ more ↔ R k i = true) (hn : ∀ i, R k i = true → i < n) : Srch R n k (fun _ => false) more :=
  ⟨fun x hx => hn x ((hm x).1 hx), fun x hx => Rch.one ((hm x).1 hx), rfl, fun i hi => Or.inr ((hm i).2 hi), fun x i hx => by cases hx⟩
/-- How many below n have not been seen. -/
def unseen (seen : Nat → Bool) : Nat → Nat
  | 0 => 0
  | n + 1 => unseen seen n + if seen n then 0 else 1
theorem unseen_same {seen seen' : Nat → Bool} : ∀ n, (∀ i, i < n → seen' i = seen i) → unseen seen' n = unseen seen n := by
  intro n
  induction n with
  | zero => intro _; rfl
  | succ n ih => intro h; rw [unseen, unseen, ih (fun i hi => h i (by omega)), h n (Nat.lt_succ_self _)]
theorem unseen_take {seen seen' : Nat → Bool} {x : Nat} (hx : seen x = false) (hs : ∀ i, seen' i = (decide (i = x) || seen i)) : ∀ n, x < n → unseen seen' n + 1 = unseen seen n := by
  intro n
  induction n with
  | zero => intro h; omega
  | succ n ih =>
    intro h
    by_cases e : x = n
    · subst e
      rw [unseen, unseen, hs x, hx, unseen_same (seen := seen) x (fun i hi => by rw [hs, decide_eq_false (by omega), Bool.false_or])]
      simp
    · have h1 := ih (by omega)
      rw [unseen, unseen, hs n, decide_eq_false (fun h => e h.symm), Bool.false_or]
      omega
end Go.Proofs.YthnmebmjmjfflaaDoor
