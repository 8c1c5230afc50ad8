/-
  A part of a selector read from its text, on lists of bytes: as the specification reads it; each theorem names its conditions.
  Small facts for the walks over the fixed numbers: what a call that only makes new memory leaves as it was, and quotients of integers rounded down; no condition.
  Rows of numbers in memory; each theorem names its conditions.
  Lists of bytes that lie in a block of their own, and what leaves them as they are; each theorem names its conditions.
-/
import Derived.ProofKit
import Derived.Test.YtnkmdmmlpidcmaaDoorRows
import Derived.WalkKit
import Derived.OpenShut
import Derived.Below
import Derived.WalkSpells
import Derived.WalkLawsBesides
import Derived.Deep.QuietTactic
import Derived.BigQuiet
import Derived.Deep.OwnRows
import Derived.ShutString
import Derived.ChangeOld
namespace Go.Proofs.YtnkmdmmlpidcmaaDoor
set_option linter.unusedVariables false

def wbL (b : UInt8) : Bool := decide ((97 ≤ b.toNat ∧ b.toNat ≤ 122) ∨ (65 ≤ b.toNat ∧ b.toNat ≤ 90) ∨ b.toNat = 95 ∨ b.toNat = 45 ∨ (48 ≤ b.toNat ∧ b.toNat ≤ 57))
def dgL (b : UInt8) : Bool := decide (48 ≤ b.toNat ∧ b.toNat ≤ 57)
def leadD (l : List UInt8) : Bool := match l with | [] => false | b :: _ => dgL b
/-- A word, as a list of bytes. -/
def wordL (l : List UInt8) : Bool := decide (1 ≤ l.length ∧ l.length ≤ 30) && (!leadD l && l.all wbL)
/-- What does not go on with a word. -/
def stopL (l : List UInt8) : Prop := ∀ b r, l = b :: r → wbL b = false
def runL (l : List UInt8) : Nat := if (l.takeWhile wbL).length = 0 ∨ leadD l = true ∨ 30 < (l.takeWhile wbL).length then 0 else (l.takeWhile wbL).length
theorem take_all {l r : List UInt8} (h : l.all wbL = true) (hr : stopL r) : (l ++ r).takeWhile wbL = l := by
  induction l with
  | nil =>
    cases r with
    | nil => rfl
    | cons b r => show (b :: r).takeWhile wbL = []; rw [List.takeWhile_cons, hr b r rfl]; rfl
  | cons b l ih =>
    rw [List.all_cons, Bool.and_eq_true] at h
    rw [List.cons_append, List.takeWhile_cons, if_pos h.1, ih h.2]
theorem runL_word {l r : List UInt8} (h : wordL l = true) (hr : stopL r) : runL (l ++ r) = l.length := by
  unfold wordL at h
  simp only [Bool.and_eq_true, decide_eq_true_eq, Bool.not_eq_true'] at h
  obtain ⟨⟨h1, h2⟩, h3, h4⟩ := h
  unfold runL
  rw [take_all h4 hr]
  have e : leadD (l ++ r) = false := by
    cases l with
    | nil => simp at h1
    | cons b l => exact h3
  rw [if_neg]
  rintro (h | h | h)
  · omega
  · rw [e] at h; cases h
  · omega
theorem run_pos {l : List UInt8} (h : runL l ≠ 0) : wordL (l.take (runL l)) = true ∧ stopL (l.drop (runL l)) ∧ runL l ≤ l.length := by
  unfold runL at h ⊢
  split at h
  · exact absurd rfl h
  · rename_i hc
    rw [if_neg hc]
    have h1 : (l.takeWhile wbL).length ≠ 0 := fun e => hc (Or.inl e)
    have h2 : leadD l ≠ true := fun e => hc (Or.inr (Or.inl e))
    have h3 : (l.takeWhile wbL).length ≤ 30 := by
      rcases Nat.lt_or_ge 30 (l.takeWhile wbL).length with c | c
      · exact absurd (Or.inr (Or.inr c)) hc
      · exact c
    have e1 : l.take (l.takeWhile wbL).length = l.takeWhile wbL := by
      conv => lhs; arg 2; rw [← List.takeWhile_append_dropWhile (p := wbL) (l := l)]
      rw [List.take_left']
      rfl
    have e2 : l.drop (l.takeWhile wbL).length = l.dropWhile wbL := by
      conv => lhs; arg 2; rw [← List.takeWhile_append_dropWhile (p := wbL) (l := l)]
      rw [List.drop_left']
      rfl
    have hle : (l.takeWhile wbL).length ≤ l.length := (List.takeWhile_sublist wbL).length_le
    refine ⟨?_, ?_, hle⟩
    · rw [e1]
      unfold wordL
      simp only [Bool.and_eq_true, decide_eq_true_eq, Bool.not_eq_true']
      refine ⟨⟨by omega, h3⟩, ?_, ?_⟩
      · cases l with
        | nil => rfl
        | cons b l =>
          rw [List.takeWhile_cons]
          split
          · show dgL b = false
            have h9 : ¬ dgL b = true := h2
            simpa using h9
          · rfl
      · rw [List.all_eq_true]
        intro b hb
        have := List.all_takeWhile (l := l) (p := wbL)
        exact List.all_eq_true.1 this b hb
    · rw [e2]
      intro b r hbr
      have := List.head?_dropWhile_not wbL l
      rw [hbr] at this
      simpa using this
structure PL where
  ty : List UInt8
  id : List UInt8
  cls : List (List UInt8)
def idL (id : List UInt8) : List UInt8 := if id = [] then [] else 35 :: id
def clsL (cs : List (List UInt8)) : List UInt8 := cs.flatMap fun c => 46 :: c
/-- The text of a part. -/
def txtL (p : PL) : List UInt8 := p.ty ++ (idL p.id ++ clsL p.cls)
structure GoodL (p : PL) : Prop where
  few : p.cls.length ≤ 4
  cls : ∀ c, c ∈ p.cls → wordL c = true
  ty : p.ty = [] ∨ p.ty = [42] ∨ wordL p.ty = true
  id : p.id = [] ∨ wordL p.id = true
  some' : p.ty ≠ [] ∨ p.id ≠ [] ∨ p.cls ≠ []
theorem stop_nil : stopL [] := fun b r h => by cases h
theorem stop_cls (cs : List (List UInt8)) : stopL (clsL cs) := by
  cases cs with
  | nil => exact stop_nil
  | cons c cs =>
    intro b r h
    have : b = 46 := by
      unfold clsL at h
      rw [List.flatMap_cons] at h
      injection h with h1 _
      exact h1.symm
    subst this
    decide
theorem stop_id (id : List UInt8) (cs : List (List UInt8)) : stopL (idL id ++ clsL cs) := by
  unfold idL
  split
  · exact stop_cls cs
  · intro b r h
    injection h with h1 _
    subst h1
    decide
theorem head_id {id : List UInt8} {cs : List (List UInt8)} {b : UInt8} {r : List UInt8} (h : idL id ++ clsL cs = b :: r) : b ≠ 42 := by
  unfold idL at h
  split at h
  · rw [List.nil_append] at h
    cases cs with
    | nil => cases h
    | cons c cs =>
      unfold clsL at h
      rw [List.flatMap_cons] at h
      injection h with h1 _
      rw [← h1]; decide
  · injection h with h1 _
    rw [← h1]; decide
/-- Classes as the specification reads them. -/
def clsS : Nat → List UInt8 → List (List UInt8) → Option (List (List UInt8))
  | 0, _, _ => none
  | f + 1, l, acc => match l with
    | [] => some acc
    | b :: t => if b = 46 then (if runL t = 0 ∨ acc.length = 4 then none else clsS f (t.drop (runL t)) (acc ++ [t.take (runL t)])) else none
theorem clsS_full : ∀ (cs : List (List UInt8)) (f : Nat) (acc : List (List UInt8)), (∀ c, c ∈ cs → wordL c = true) → (clsL cs).length < f → acc.length + cs.length ≤ 4 → clsS f (clsL cs) acc = some (acc ++ cs) := by
  intro cs
  induction cs with
  | nil =>
    intro f acc _ hf _
    cases f with
    | zero => simp at hf
    | succ f => show some acc = some (acc ++ []); rw [List.append_nil]
  | cons c cs ih =>
    intro f acc hw hf ha
    cases f with
    | zero => simp at hf
    | succ f =>
      have hc := hw c (by simp)
      have hr := runL_word hc (stop_cls cs)
      have hne : c.length ≠ 0 := by
        unfold wordL at hc
        simp only [Bool.and_eq_true, decide_eq_true_eq] at hc
        omega
      have e : clsL (c :: cs) = 46 :: (c ++ clsL cs) := by unfold clsL; rw [List.flatMap_cons]; rfl
      rw [e] at hf ⊢
      simp only [List.length_cons, List.length_append] at hf ha
      show (if (46 : UInt8) = 46 then (if runL (c ++ clsL cs) = 0 ∨ acc.length = 4 then none else clsS f ((c ++ clsL cs).drop (runL (c ++ clsL cs))) (acc ++ [(c ++ clsL cs).take (runL (c ++ clsL cs))])) else none) = _
      rw [if_pos rfl, hr, if_neg (by omega), List.drop_left, List.take_left, ih f (acc ++ [c]) (fun x hx => hw x (by simp [hx])) (by omega) (by simp; omega), List.append_assoc]
      rfl
theorem clsS_sound : ∀ (f : Nat) (l : List UInt8) (acc out : List (List UInt8)), clsS f l acc = some out → ∃ cs, out = acc ++ cs ∧ l = clsL cs ∧ (∀ c, c ∈ cs → wordL c = true) ∧ (acc.length ≤ 4 → out.length ≤ 4) := by
  intro f
  induction f with
  | zero => intro l acc out h; cases h
  | succ f ih =>
    intro l acc out h
    cases l with
    | nil =>
      injection h with h
      subst h
      exact ⟨[], (List.append_nil _).symm, rfl, (fun c hc => by cases hc), fun h => h⟩
    | cons b t =>
      replace h : (if b = 46 then (if runL t = 0 ∨ acc.length = 4 then none else clsS f (t.drop (runL t)) (acc ++ [t.take (runL t)])) else none) = some out := h
      split at h
      · rename_i hb
        subst hb
        split at h
        · cases h
        · rename_i hc
          have h0 : runL t ≠ 0 := fun e => hc (Or.inl e)
          have h4 : acc.length ≠ 4 := fun e => hc (Or.inr e)
          obtain ⟨hw, _, _⟩ := run_pos h0
          obtain ⟨cs, e1, e2, e3, e4⟩ := ih _ _ _ h
          refine ⟨t.take (runL t) :: cs, ?_, ?_, ?_, fun ha => e4 (by simp; omega)⟩
          · rw [e1, List.append_assoc]; rfl
          · show 46 :: t = clsL (t.take (runL t) :: cs)
            unfold clsL
            rw [List.flatMap_cons]
            show 46 :: t = 46 :: (t.take (runL t) ++ clsL cs)
            rw [← e2, List.take_append_drop]
          · intro c hc2
            rcases List.mem_cons.1 hc2 with e | hc2
            · rw [e]; exact hw
            · exact e3 c hc2
      · cases h
/-- The part's type ahead of a text. -/
def tyS (l : List UInt8) : List UInt8 × List UInt8 := match l with
  | [] => ([], [])
  | b :: t => if b = 42 then ([42], t) else ((b :: t).take (runL (b :: t)), (b :: t).drop (runL (b :: t)))
/-- The id ahead of what is left; none where a `#` has no word. -/
def idS (l : List UInt8) : Option (List UInt8 × List UInt8) := match l with
  | [] => some ([], [])
  | b :: t => if b = 35 then (if runL t = 0 then none else some (t.take (runL t), t.drop (runL t))) else some ([], b :: t)
/-- A part as the specification reads it. -/
def prs (l : List UInt8) : Option PL := if l = [] then none else
  match idS (tyS l).2 with
  | none => none
  | some (id, r) => match clsS (r.length + 1) r [] with
    | none => none
    | some cs => some ⟨(tyS l).1, id, cs⟩
theorem wordL_ne {l : List UInt8} (h : wordL l = true) : l ≠ [] := by
  rintro rfl
  revert h
  decide
theorem wordL_head {b : UInt8} {l : List UInt8} (h : wordL (b :: l) = true) : wbL b = true := by
  unfold wordL at h
  simp only [Bool.and_eq_true, List.all_cons] at h
  exact h.2.2.1
theorem prs_full {p : PL} (h : GoodL p) : prs (txtL p) = some p := by
  obtain ⟨ty, id, cls⟩ := p
  obtain ⟨h1, h2, h3, h4, h5⟩ := h
  simp only at h1 h2 h3 h4 h5
  have hne : txtL ⟨ty, id, cls⟩ ≠ [] := by
    unfold txtL idL clsL
    simp only
    rcases h5 with h | h | h
    · intro e; exact h (List.append_eq_nil_iff.1 e).1
    · rw [if_neg h]; intro e; have := (List.append_eq_nil_iff.1 e).2; cases this
    · cases cls with
      | nil => exact absurd rfl h
      | cons c cs =>
        intro e
        have := (List.append_eq_nil_iff.1 (List.append_eq_nil_iff.1 e).2).2
        rw [List.flatMap_cons] at this
        cases this
  have hrest := stop_id id cls
  have hty : tyS (txtL ⟨ty, id, cls⟩) = (ty, idL id ++ clsL cls) := by
    unfold txtL
    simp only
    have h42R : ∀ b r, idL id ++ clsL cls = b :: r → b ≠ 42 := fun b r e => head_id e
    generalize idL id ++ clsL cls = R at *
    rcases h3 with rfl | rfl | hw
    · rw [List.nil_append]
      cases R with
      | nil => rfl
      | cons b r =>
        have hb := hrest b r rfl
        have hr0 : runL (b :: r) = 0 := by
          unfold runL
          rw [List.takeWhile_cons, hb]
          rfl
        have h42 : b ≠ 42 := h42R b r rfl
        show (if b = 42 then ([42], r) else ((b :: r).take (runL (b :: r)), (b :: r).drop (runL (b :: r)))) = _
        rw [if_neg h42, hr0]
        rfl
    · rfl
    · have hr := runL_word hw hrest
      cases ty with
      | nil => exact absurd rfl (wordL_ne hw)
      | cons b t =>
        have hb := wordL_head hw
        have h42 : b ≠ 42 := by rintro rfl; revert hb; decide
        unfold tyS
        simp only [List.cons_append]
        rw [if_neg h42]
        have e : b :: (t ++ R) = (b :: t) ++ R := rfl
        rw [e, hr, List.take_left, List.drop_left]
  have hid : idS (idL id ++ clsL cls) = some (id, clsL cls) := by
    unfold idL
    split
    · rename_i e
      subst e
      rw [List.nil_append]
      cases cls with
      | nil => rfl
      | cons c cs => rfl
    · rename_i e
      rcases h4 with h | h
      · exact absurd h e
      · have hr := runL_word h (stop_cls cls)
        show (if (35 : UInt8) = 35 then (if runL (id ++ clsL cls) = 0 then none else some ((id ++ clsL cls).take (runL (id ++ clsL cls)), (id ++ clsL cls).drop (runL (id ++ clsL cls)))) else some ([], 35 :: (id ++ clsL cls))) = _
        rw [if_pos rfl, hr, if_neg (fun e2 => e (List.eq_nil_of_length_eq_zero e2)), List.take_left, List.drop_left]
  unfold prs
  rw [if_neg hne, hty]
  simp only
  rw [hid]
  simp only
  rw [clsS_full cls _ [] h2 (Nat.lt_succ_self _) (by simpa using h1)]
  rfl
theorem prs_sound {l : List UInt8} {p : PL} (h : prs l = some p) : GoodL p ∧ txtL p = l := by
  unfold prs at h
  split at h
  · cases h
  · rename_i hne
    cases hi : idS (tyS l).2 with
    | none => rw [hi] at h; cases h
    | some x =>
      obtain ⟨id, r⟩ := x
      rw [hi] at h
      simp only at h
      cases hc : clsS (r.length + 1) r [] with
      | none => rw [hc] at h; cases h
      | some cs =>
        rw [hc] at h
        simp only at h
        injection h with h
        subst h
        obtain ⟨cs', e1, e2, e3, e4⟩ := clsS_sound _ _ _ _ hc
        rw [List.nil_append] at e1
        subst e1
        have hty : ((tyS l).1 = [] ∨ (tyS l).1 = [42] ∨ wordL (tyS l).1 = true) ∧ (tyS l).1 ++ (tyS l).2 = l := by
          cases l with
          | nil => exact absurd rfl hne
          | cons b t =>
            by_cases hb : b = 42
            · subst hb
              exact ⟨Or.inr (Or.inl rfl), rfl⟩
            · have e : tyS (b :: t) = ((b :: t).take (runL (b :: t)), (b :: t).drop (runL (b :: t))) := by
                show (if b = 42 then ([42], t) else _) = _
                rw [if_neg hb]
              rw [e]
              refine ⟨?_, List.take_append_drop _ _⟩
              by_cases h0 : runL (b :: t) = 0
              · rw [h0]; exact Or.inl rfl
              · exact Or.inr (Or.inr (run_pos h0).1)
        have hid : (id = [] ∨ wordL id = true) ∧ idL id ++ r = (tyS l).2 := by
          generalize (tyS l).2 = R at *
          cases R with
          | nil =>
            injection hi with hi
            injection hi with i1 i2
            subst i1 i2
            exact ⟨Or.inl rfl, rfl⟩
          | cons b t =>
            by_cases hb : b = 35
            · subst hb
              replace hi : (if (35 : UInt8) = 35 then (if runL t = 0 then none else some (t.take (runL t), t.drop (runL t))) else some ([], 35 :: t)) = some (id, r) := hi
              rw [if_pos rfl] at hi
              split at hi
              · cases hi
              · rename_i h0
                injection hi with hi
                injection hi with i1 i2
                have hw := (run_pos h0).1
                rw [i1] at hw
                refine ⟨Or.inr hw, ?_⟩
                unfold idL
                rw [if_neg (wordL_ne hw), ← i1, ← i2]
                show 35 :: (t.take (runL t) ++ t.drop (runL t)) = 35 :: t
                rw [List.take_append_drop]
            · replace hi : (if b = 35 then (if runL t = 0 then none else some (t.take (runL t), t.drop (runL t))) else some ([], b :: t)) = some (id, r) := hi
              rw [if_neg hb] at hi
              injection hi with hi
              injection hi with i1 i2
              subst i1 i2
              exact ⟨Or.inl rfl, rfl⟩
        have htx : txtL ⟨(tyS l).1, id, cs⟩ = l := by
          unfold txtL
          simp only
          rw [← e2, hid.2, hty.2]
        refine ⟨⟨e4 (by simp), e3, hty.1, hid.1, ?_⟩, htx⟩
        simp only
        by_cases c1 : (tyS l).1 = []
        · by_cases c2 : id = []
          · refine Or.inr (Or.inr fun c3 => hne ?_)
            rw [← htx, c1, c2, c3]
            rfl
          · exact Or.inr (Or.inl c2)
        · exact Or.inl c1
/-- What the specification reads is what has that text. -/
theorem prs_iff (l : List UInt8) (p : PL) : prs l = some p ↔ GoodL p ∧ txtL p = l := by
  constructor
  · exact prs_sound
  · rintro ⟨h, rfl⟩
    exact prs_full h
/-- A text parted at its points. -/
def dots : List UInt8 → List UInt8 × List (List UInt8)
  | [] => ([], [])
  | b :: l => if b = 46 then ([], (dots l).1 :: (dots l).2) else (b :: (dots l).1, (dots l).2)
theorem dots_join : ∀ l, (dots l).1 ++ clsL (dots l).2 = l := by
  intro l
  induction l with
  | nil => rfl
  | cons b l ih =>
    rw [dots]
    split
    · rename_i h
      subst h
      show clsL ((dots l).1 :: (dots l).2) = _
      unfold clsL
      rw [List.flatMap_cons]
      show 46 :: ((dots l).1 ++ clsL (dots l).2) = _
      rw [ih]
    · show b :: ((dots l).1 ++ clsL (dots l).2) = _
      rw [ih]
theorem dots_text : ∀ (cs : List (List UInt8)), (∀ c, c ∈ cs → (46 : UInt8) ∉ c) → ∀ a : List UInt8, (46 : UInt8) ∉ a → dots (a ++ clsL cs) = (a, cs) := by
  intro cs
  induction cs with
  | nil =>
    intro _ a
    induction a with
    | nil => intro _; rfl
    | cons b a iha =>
      intro h
      have h1 := iha (fun x => h (List.mem_cons_of_mem _ x))
      show dots (b :: (a ++ clsL [])) = _
      rw [dots, if_neg (fun e => h (by rw [e]; exact List.mem_cons_self)), h1]
  | cons c cs ih =>
    intro hc a
    induction a with
    | nil =>
      intro _
      have h1 := ih (fun x hx => hc x (List.mem_cons_of_mem _ hx)) c (hc c List.mem_cons_self)
      have e : clsL (c :: cs) = 46 :: (c ++ clsL cs) := by unfold clsL; rw [List.flatMap_cons]; rfl
      rw [List.nil_append, e, dots, if_pos rfl, h1]
    | cons b a iha =>
      intro h
      have h1 := iha (fun x => h (List.mem_cons_of_mem _ x))
      show dots (b :: (a ++ clsL (c :: cs))) = _
      rw [dots, if_neg (fun e => h (by rw [e]; exact List.mem_cons_self)), h1]
/-- A text cut at its first `#`. -/
def cutH : List UInt8 → List UInt8 × List UInt8 × Bool
  | [] => ([], [], false)
  | b :: l => if b = 35 then ([], l, true) else (b :: (cutH l).1, (cutH l).2.1, (cutH l).2.2)
theorem cutH_join : ∀ l, ((cutH l).2.2 = true → l = (cutH l).1 ++ 35 :: (cutH l).2.1) ∧ ((cutH l).2.2 = false → l = (cutH l).1 ∧ (cutH l).2.1 = []) := by
  intro l
  induction l with
  | nil => exact ⟨(fun h => by cases h), fun _ => ⟨rfl, rfl⟩⟩
  | cons b l ih =>
    rw [cutH]
    split
    · rename_i h
      subst h
      exact ⟨fun _ => rfl, (fun h => by cases h)⟩
    · refine ⟨fun h => ?_, fun h => ?_⟩
      · have := ih.1 h
        show b :: l = b :: ((cutH l).1 ++ 35 :: (cutH l).2.1)
        rw [← this]
      · obtain ⟨h1, h2⟩ := ih.2 h
        exact ⟨congrArg (List.cons b) h1, h2⟩
theorem cutH_text : ∀ (a id : List UInt8), (35 : UInt8) ∉ a → cutH (a ++ idL id) = (a, id, decide (id ≠ [])) := by
  intro a id
  induction a with
  | nil =>
    intro _
    rw [List.nil_append]
    unfold idL
    split
    · rename_i h; subst h; rfl
    · rename_i h
      rw [cutH, if_pos rfl, decide_eq_true h]
  | cons b a ih =>
    intro h
    have h1 := ih (fun x => h (List.mem_cons_of_mem _ x))
    show cutH (b :: (a ++ idL id)) = _
    rw [cutH, if_neg (fun e => h (by rw [e]; exact List.mem_cons_self)), h1]
/-- A part as the program reads it. -/
def prI (l : List UInt8) : PL := ⟨(cutH (dots l).1).1, (cutH (dots l).1).2.1, (dots l).2⟩
def prIok (l : List UInt8) : Prop := GoodL (prI l) ∧ ¬ ((cutH (dots l).1).2.2 = true ∧ (cutH (dots l).1).2.1 = [])
theorem not_in_word {w : List UInt8} {b : UInt8} (h : wordL w = true) (hb : wbL b = false) : b ∉ w := by
  intro hm
  unfold wordL at h
  simp only [Bool.and_eq_true] at h
  have := List.all_eq_true.1 h.2.2 b hm
  rw [hb] at this
  cases this
theorem prI_sound {l : List UInt8} (h : prIok l) : txtL (prI l) = l := by
  obtain ⟨h1, h2⟩ := h
  have hj := dots_join l
  have hc := cutH_join (dots l).1
  unfold txtL prI
  simp only
  cases hb : (cutH (dots l).1).2.2 with
  | true =>
    have h3 : (cutH (dots l).1).2.1 ≠ [] := fun e => h2 ⟨hb, e⟩
    have h4 := hc.1 hb
    unfold idL
    rw [if_neg h3, ← List.append_assoc, ← h4, hj]
  | false =>
    obtain ⟨h4, h5⟩ := hc.2 hb
    rw [h5]
    unfold idL
    rw [if_pos rfl, List.nil_append, ← h4, hj]
theorem prI_full {p : PL} (h : GoodL p) : prI (txtL p) = p ∧ prIok (txtL p) := by
  obtain ⟨ty, id, cls⟩ := p
  have hw46 : wbL 46 = false := by decide
  have hw35 : wbL 35 = false := by decide
  have n46c : ∀ c, c ∈ cls → (46 : UInt8) ∉ c := fun c hc => not_in_word (h.cls c hc) hw46
  have n46t : (46 : UInt8) ∉ ty := by
    rcases h.ty with e | e | e
    · simp only at e; rw [e]; simp
    · simp only at e; rw [e]; decide
    · exact not_in_word e hw46
  have n35t : (35 : UInt8) ∉ ty := by
    rcases h.ty with e | e | e
    · simp only at e; rw [e]; simp
    · simp only at e; rw [e]; decide
    · exact not_in_word e hw35
  have n46i : (46 : UInt8) ∉ idL id := by
    unfold idL
    split
    · simp
    · rename_i e
      rcases h.id with e2 | e2
      · exact absurd e2 e
      · intro hm
        rcases List.mem_cons.1 hm with e3 | hm
        · revert e3; decide
        · exact not_in_word e2 hw46 hm
  have hd : dots (txtL ⟨ty, id, cls⟩) = (ty ++ idL id, cls) := by
    unfold txtL
    simp only
    rw [← List.append_assoc]
    exact dots_text cls n46c (ty ++ idL id) (fun hm => by
      rcases List.mem_append.1 hm with h | h
      · exact n46t h
      · exact n46i h)
  have hc := cutH_text ty id n35t
  have e : prI (txtL ⟨ty, id, cls⟩) = ⟨ty, id, cls⟩ := by
    unfold prI
    rw [hd]
    simp only
    rw [hc]
  refine ⟨e, by rw [e]; exact h, ?_⟩
  rw [hd]
  simp only
  rw [hc]
  simp only
  rintro ⟨h1, h2⟩
  rw [h2] at h1
  revert h1
  decide
/-- Both readers answer alike. -/
theorem prs_prI (l : List UInt8) : (prIok l → prs l = some (prI l)) ∧ (¬ prIok l → prs l = none) := by
  constructor
  · intro h
    exact (prs_iff l _).2 ⟨h.1, prI_sound h⟩
  · intro h
    cases e : prs l with
    | none => rfl
    | some p =>
      exfalso
      obtain ⟨h1, h2⟩ := (prs_iff l p).1 e
      have h3 := (prI_full h1).2
      rw [h2] at h3
      exact h h3
end Go.Proofs.YtnkmdmmlpidcmaaDoor
namespace Go.Proofs.YtnkmdmmlpidcmaaDoor
open Go.ChangeShapes Go.WideShapes Go.ChangeAt Go.RowKit

/-- The call made new memory at most: all that was there is as it was. -/
def Kp (w w' : World) : Prop := Below w.heap.size w w' ∧ ∀ a, w'.frozen? a = w.frozen? a

theorem Kp.refl (w : World) : Kp w w := ⟨Below.refl _ _, fun _ => rfl⟩
theorem Kp.size {w w' : World} (h : Kp w w') : w.heap.size ≤ w'.heap.size := h.1.size
theorem Kp.trans {w w1 w2 : World} (h : Kp w w1) (k : Kp w1 w2) : Kp w w2 :=
  ⟨h.1.trans (k.1.mono h.1.size), fun a => (k.2 a).trans (h.2 a)⟩
theorem Kp.alloc {w w1 : World} (h : Kp w w1) (c : Array Value) (t : TypeId) : Kp w (w1.alloc (.cells c t)) :=
  ⟨h.1.alloc h.1.size _, fun a => (frozen?_alloc_cells _ _ _ a).trans (h.2 a)⟩
theorem Kp.drew {w w1 : World} (h : Kp w w1) : Kp w w1.drew := ⟨h.1.drew, h.2⟩
theorem Kp.setCell {w w1 : World} (h : Kp w w1) {a : Addr} (ha : w.heap.size ≤ a.block) (v : Value) : Kp w (w1.setCell a v) :=
  ⟨h.1.setCell ha v, fun x => (World.frozen?_setCell _ _ _ _).trans (h.2 x)⟩
theorem Kp.grown {w w1 : World} (h : Kp w w1) : Grown w w1 := ⟨h.1.frame _, h.2, h.1.size⟩
theorem Kp.drewN {w w1 : World} (h : Kp w w1) (n : Nat) : Kp w (w1.drewN n) :=
  h.trans ⟨⟨rfl, rfl, rfl, Nat.le_refl _, fun _ _ => rfl⟩, fun _ => rfl⟩
/-- All old cells and marks read as before. -/
theorem Kp.cells {W w1 : World} (h : Kp W w1) : (∀ b o, b < W.heap.size → w1.cell? ⟨b, o, none⟩ = W.cell? ⟨b, o, none⟩) ∧ (∀ b o, w1.frozen? ⟨b, o, none⟩ = W.frozen? ⟨b, o, none⟩) :=
  ⟨fun b o hb => h.1.cell (p := ⟨b, o, none⟩) hb, fun _ _ => h.2 _⟩

theorem i64_bd {a : Int} (h : (Lit.int .i64 a).wf = true) : -9223372036854775808 ≤ a ∧ a ≤ 9223372036854775807 := by
  simp [Lit.wf, IntKind.min, IntKind.max, IntKind.signed, IntKind.bits] at h; omega
theorem ret_int {k : IntKind} {a b : Int} (h : a = b) : Ending.returned (.int k a) = .returned (.int k b) := by rw [h]

/-! ### Quotients -/
theorem tdiv_neg_of (a b : Int) (ha : a < 0) : a.tdiv b = -((-a) / b) := by
  have h : a = -(-a) := by omega
  rw [h, Int.neg_tdiv, Int.tdiv_eq_ediv_of_nonneg (by omega)]; simp
theorem tmod_neg_of (a b : Int) (ha : a < 0) : a.tmod b = -((-a) % b) := by
  have h : a = -(-a) := by omega
  rw [h, Int.neg_tmod, Int.tmod_eq_emod_of_nonneg (by omega)]; simp
/-- A quotient's size is not above its numerator's. -/
theorem ediv_bd (a b : Int) (ha : 0 ≤ a) (hb : 0 < b) : 0 ≤ a / b ∧ a / b ≤ a :=
  ⟨Int.ediv_nonneg ha (by omega), Int.ediv_le_self _ ha⟩
/-- Down, of a number below 0. -/
theorem ediv_neg_of (a b : Int) (hb : 0 < b) : a / b = if (-a) % b = 0 then -((-a) / b) else -((-a) / b) - 1 := by
  have h1 := Int.mul_ediv_add_emod (-a) b
  have h2 := Int.emod_nonneg (-a) (b := b) (by omega)
  have h3 := Int.emod_lt_of_pos (-a) hb
  generalize (-a) / b = q at *
  generalize (-a) % b = r at *
  have e : a = b * (-q) - r := by rw [Int.mul_neg]; omega
  split
  · rename_i hr
    rw [e, hr, Int.sub_zero, Int.mul_ediv_cancel_left _ (by omega)]
  · rename_i hr
    have e2 : a = (b - r) + b * (-q - 1) := by rw [Int.mul_sub, e]; omega
    rw [e2, Int.add_mul_ediv_left _ _ (by omega), Int.ediv_eq_zero_of_lt (by omega) (by omega)]; omega
end Go.Proofs.YtnkmdmmlpidcmaaDoor
namespace Go.Proofs.YtnkmdmmlpidcmaaDoor
open Go.ChangeShapes Go.WideShapes Go.ChangeAt Go.RowKit
set_option linter.unusedVariables false


theorem Tryd.info5 : (Tryd.prog.info? 5).map (fun i => (i.zero, i.size, i.bytes)) = some (some (.int .u8 0), 1, 1) := by kernel_rfl
theorem Tryd.info3 : (Tryd.prog.info? 3).map (fun i => (i.zero, i.size, i.bytes)) = some (some (.int .i64 0), 1, 8) := by kernel_rfl

/-- The numbers zs of the kind k lie at a. -/
def Row (k : IntKind) (w : World) (a : Option Addr) (zs : List Int) : Prop :=
  zs = [] ∨ ∃ b off, a = some ⟨b, off, none⟩ ∧ b < w.heap.size ∧ ∀ i, i < zs.length → w.cell? ⟨b, off + i, none⟩ = some (.int k (zs.getD i 0))

def cellsOf (k : IntKind) (zs : List Int) : Array Value := (zs.map (Value.int k)).toArray
/-- A new list of which the first n numbers have been laid. -/
def part (k : IntKind) (zs : List Int) (n : Nat) : Array Value := ((zs.take n).map (Value.int k) ++ List.replicate (zs.length - n) (Value.int k 0)).toArray
theorem part_all (k : IntKind) (zs : List Int) : part k zs zs.length = cellsOf k zs := by simp [part, cellsOf]
theorem part_none (k : IntKind) (zs : List Int) : madeCells #[Value.int k 0] zs.length = part k zs 0 := by
  simp only [part, madeCells, List.take_zero, List.map_nil, List.nil_append, Nat.sub_zero]
  apply Array.ext_getElem?
  intro i
  simp [Nat.mod_one]
  by_cases h : i < zs.length <;> simp [h]
theorem part_at (k : IntKind) (zs : List Int) (n : Nat) (h : n < zs.length) : (part k zs n)[n]? = some (.int k 0) := by
  simp only [part, List.getElem?_toArray]
  rw [List.getElem?_append_right (by simp; omega)]
  rw [List.getElem?_replicate, if_pos (by simp; omega)]
theorem part_step (k : IntKind) (zs : List Int) (n : Nat) (h : n < zs.length) : (part k zs n).setIfInBounds n (.int k (zs.getD n 0)) = part k zs (n + 1) := by
  have e : zs.length - n = (zs.length - (n + 1)) + 1 := by omega
  have e2 : zs.getD n 0 = zs[n] := by simp [h]
  rw [e2]
  simp only [part, e, List.setIfInBounds_toArray, List.replicate_succ]
  congr 1
  rw [List.take_succ_eq_append_getElem h, List.map_append, List.set_append_right _ _ (by simp; omega)]
  simp [Nat.min_eq_left (Nat.le_of_lt h)]
theorem cellsOf_get (k : IntKind) (zs : List Int) (i : Nat) (h : i < zs.length) : (cellsOf k zs)[i]? = some (.int k (zs.getD i 0)) := by
  simp [cellsOf, h]
theorem row_new (k : IntKind) (w : World) (zs : List Int) (t : TypeId) : Row k (w.alloc (.cells (cellsOf k zs) t)) (some ⟨w.heap.size, 0, none⟩) zs := by
  refine Or.inr ⟨w.heap.size, 0, rfl, by simp, fun i hi => ?_⟩
  have := cellsOf_get k zs i hi
  simp [this]
theorem Row.keep {k : IntKind} {w w1 : World} {a : Option Addr} {zs : List Int} (h : Row k w a zs) (hk : Kp w w1) : Row k w1 a zs := by
  rcases h with h | ⟨b, off, rfl, hb, hc⟩
  · exact Or.inl h
  · exact Or.inr ⟨b, off, rfl, Nat.lt_of_lt_of_le hb hk.size, fun i hi => (hk.cells.1 _ _ hb).trans (hc i hi)⟩

end Go.Proofs.YtnkmdmmlpidcmaaDoor
namespace Go.Proofs.YtnkmdmmlpidcmaaDoor
open Go.ChangeShapes Go.WideShapes Go.ChangeAt Go.RowKit
set_option linter.unusedVariables false

/-- Nothing but the block B has changed. -/
structure Sel (B : Nat) (w w' : World) : Prop where
  os : w'.os = w.os
  tape : w'.tape = w.tape
  output : w'.output = w.output
  size : w'.heap.size = w.heap.size
  block : ∀ k, k ≠ B → w'.heap[k]? = w.heap[k]?
theorem Sel.refl (B : Nat) (w : World) : Sel B w w := ⟨rfl, rfl, rfl, rfl, fun _ _ => rfl⟩
theorem Sel.trans {B : Nat} {a b c : World} (h : Sel B a b) (k : Sel B b c) : Sel B a c :=
  ⟨k.os.trans h.os, k.tape.trans h.tape, k.output.trans h.output, k.size.trans h.size, fun i hi => (k.block i hi).trans (h.block i hi)⟩
theorem Sel.setCell {B : Nat} {a b : World} (h : Sel B a b) (o : Nat) (u : Value) : Sel B a (b.setCell ⟨B, o, none⟩ u) :=
  h.trans ⟨rfl, rfl, rfl, by simp [World.setCell], fun k hk => Below.heap_setCell _ _ _ _ (by simpa using hk)⟩
theorem Sel.below {B : Nat} {a b : World} (h : Sel B a b) : Below B a b := ⟨h.os, h.tape, h.output, by have := h.size; omega, fun k hk => h.block k (by omega)⟩

/-- The numbers zs lie in the block b, which may be written. -/
def At (w : World) (b : Nat) (zs : List Int) : Prop :=
  b < w.heap.size ∧ (∀ i, i < zs.length → w.cell? ⟨b, 0 + i, none⟩ = some (.int .u8 (zs.getD i 0))) ∧ ∀ o, w.frozen? ⟨b, o, none⟩ = false
/-- Nothing that was there is written. -/
def Nw (w w' : World) : Prop := Below w.heap.size w w'
theorem Nw.trans {a b c : World} (h : Nw a b) (k : Nw b c) : Nw a c := Below.trans h (Below.mono k (Below.size h))
theorem Kp.nw {a b : World} (h : Kp a b) : Nw a b := h.1
theorem At.nw {w w' : World} {b : Nat} {zs : List Int} (h : At w b zs) (k : Nw w w') : At w' b zs :=
  ⟨Nat.lt_of_lt_of_le h.1 (Below.size k), fun i hi => (Below.cell k (p := ⟨b, 0 + i, none⟩) h.1).trans (h.2.1 i hi), fun o => (Below.frozen k (p := ⟨b, o, none⟩) h.1).trans (h.2.2 o)⟩
theorem At.sel {w w' : World} {b B : Nat} {zs : List Int} (h : At w b zs) (k : Sel B w w') (hne : b ≠ B) : At w' b zs :=
  ⟨by rw [k.size]; exact h.1, fun i hi => (World.cell?_of_block (w := w) (a := ⟨b, 0 + i, none⟩) (k.block b hne)).trans (h.2.1 i hi), fun o => (World.frozen?_of_block (w := w) (a := ⟨b, o, none⟩) (k.block b hne)).trans (h.2.2 o)⟩
def ints (bs : List Nat) : List Int := bs.map (fun b : Nat => (b : Int))
theorem ints_len (bs : List Nat) : (ints bs).length = bs.length := by simp [ints]
theorem ints_get (bs : List Nat) (i : Nat) : (ints bs).getD i 0 = ((bs.getD i 0 : Nat) : Int) := by
  by_cases h : i < bs.length
  · simp [ints, h]
  · rw [List.getD_eq_getElem?_getD, List.getD_eq_getElem?_getD, List.getElem?_eq_none (by rw [ints_len]; omega), List.getElem?_eq_none (by omega)]; rfl
theorem At.alloc (w : World) (zs : List Int) (t : TypeId) : At (w.alloc (.cells (cellsOf .u8 zs) t)) w.heap.size zs := by
  refine ⟨by simp, fun i hi => ?_, fun o => World.frozen?_alloc_at _ _ _ _ rfl⟩
  have := cellsOf_get .u8 zs i hi
  simp [this]
theorem At.row {w : World} {b : Nat} {zs : List Int} (h : At w b zs) : Row .u8 w (some ⟨b, 0, none⟩) zs := Or.inr ⟨b, 0, rfl, h.1, h.2.1⟩
theorem Row.below {k : IntKind} {w w' : World} {a : Option Addr} {zs : List Int} (h : Row k w a zs) (hk : Below w.heap.size w w') : Row k w' a zs := by
  rcases h with h | ⟨b, off, rfl, hb, hc⟩
  · exact Or.inl h
  · exact Or.inr ⟨b, off, rfl, Nat.lt_of_lt_of_le hb hk.size, fun i hi => (hk.cell (p := ⟨b, off + i, none⟩) hb).trans (hc i hi)⟩

end Go.Proofs.YtnkmdmmlpidcmaaDoor
