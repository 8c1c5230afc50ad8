/-
  A part of a selector read from its text, on lists of bytes: as the specification reads it; each theorem names its conditions.
-/
import Derived.ProofKit
namespace Go.Proofs.YtnkmdmmlpidcmaaDoor
set_option linter.unusedVariables false

def wbL (b : UInt8) : Bool := decide ((97 ≤ b.toNat ∧ b.toNat ≤ 122) ∨ (65 ≤ b.toNat ∧ b.toNat ≤ 90) ∨ b.toNat = 95 ∨ b.toNat = 45 ∨ (48 ≤ b.toNat ∧ b.toNat ≤ 57))
def dgL (b : UInt8) : Bool := decide (48 ≤ b.toNat ∧ b.toNat ≤ 57)
def leadD (l : List UInt8) : Bool := match l with | [] => false | b :: _ => dgL b
/-- A word, as a list of bytes. -/
def wordL (l : List UInt8) : Bool := decide (1 ≤ l.length ∧ l.length ≤ 30) && (!leadD l && l.all wbL)
/-- What does not go on with a word. -/
def stopL (l : List UInt8) : Prop := ∀ b r, l = b :: r → wbL b = false
def runL (l : List UInt8) : Nat := if (l.takeWhile wbL).length = 0 ∨ leadD l = true ∨ 30 < (l.takeWhile wbL).length then 0 else (l.takeWhile wbL).length
theorem take_all {l r : List UInt8} (h : l.all wbL = true) (hr : stopL r) : (l ++ r).takeWhile wbL = l := by
  induction l with
  | nil =>
    cases r with
    | nil => rfl
    | cons b r => show (b :: r).takeWhile wbL = []; rw [List.takeWhile_cons, hr b r rfl]; rfl
  | cons b l ih =>
    rw [List.all_cons, Bool.and_eq_true] at h
    rw [List.cons_append, List.takeWhile_cons, if_pos h.1, ih h.2]
theorem runL_word {l r : List UInt8} (h : wordL l = true) (hr : stopL r) : runL (l ++ r) = l.length := by
  unfold wordL at h
  simp only [Bool.and_eq_true, decide_eq_true_eq, Bool.not_eq_true'] at h
  obtain ⟨⟨h1, h2⟩, h3, h4⟩ := h
  unfold runL
  rw [take_all h4 hr]
  have e : leadD (l ++ r) = false := by
    cases l with
    | nil => simp at h1
    | cons b l => exact h3
  rw [if_neg]
  rintro (h | h | h)
  · omega
  · rw [e] at h; cases h
  · omega
theorem run_pos {l : List UInt8} (h : runL l ≠ 0) : wordL (l.take (runL l)) = true ∧ stopL (l.drop (runL l)) ∧ runL l ≤ l.length := by
  unfold runL at h ⊢
  split at h
  · exact absurd rfl h
  · rename_i hc
    rw [if_neg hc]
    have h1 : (l.takeWhile wbL).length ≠ 0 := fun e => hc (Or.inl e)
    have h2 : leadD l ≠ true := fun e => hc (Or.inr (Or.inl e))
    have h3 : (l.takeWhile wbL).length ≤ 30 := by
      rcases Nat.lt_or_ge 30 (l.takeWhile wbL).length with c | c
      · exact absurd (Or.inr (Or.inr c)) hc
      · exact c
    have e1 : l.take (l.takeWhile wbL).length = l.takeWhile wbL := by
      conv => lhs; arg 2; rw [← List.takeWhile_append_dropWhile (p := wbL) (l := l)]
      rw [List.take_left']
      rfl
    have e2 : l.drop (l.takeWhile wbL).length = l.dropWhile wbL := by
      conv => lhs; arg 2; rw [← List.takeWhile_append_dropWhile (p := wbL) (l := l)]
      rw [List.drop_left']
      rfl
    have hle : (l.takeWhile wbL).length ≤ l.length := (List.takeWhile_sublist wbL).length_le
    refine ⟨?_, ?_, hle⟩
    · rw [e1]
      unfold wordL
      simp only [Bool.and_eq_true, decide_eq_true_eq, Bool.not_eq_true']
      refine ⟨⟨by omega, h3⟩, ?_, ?_⟩
      · cases l with
        | nil => rfl
        | cons b l =>
          rw [List.takeWhile_cons]
          split
          · show dgL b = false
            have h9 : ¬ dgL b = true := h2
            simpa using h9
          · rfl
      · rw [List.all_eq_true]
        intro b hb
        have := List.all_takeWhile (l := l) (p := wbL)
        exact List.all_eq_true.1 this b hb
    · rw [e2]
      intro b r hbr
      have := List.head?_dropWhile_not wbL l
      rw [hbr] at this
      simpa using this
structure PL where
  ty : List UInt8
  id : List UInt8
  cls : List (List UInt8)
def idL (id : List UInt8) : List UInt8 := if id = [] then [] else 35 :: id
def clsL (cs : List (List UInt8)) : List UInt8 := cs.flatMap fun c => 46 :: c
/-- The text of a part. -/
def txtL (p : PL) : List UInt8 := p.ty ++ (idL p.id ++ clsL p.cls)
structure GoodL (p : PL) : Prop where
  few : p.cls.length ≤ 4
  cls : ∀ c, c ∈ p.cls → wordL c = true
  ty : p.ty = [] ∨ p.ty = [42] ∨ wordL p.ty = true
  id : p.id = [] ∨ wordL p.id = true
  some' : p.ty ≠ [] ∨ p.id ≠ [] ∨ p.cls ≠ []
theorem stop_nil : stopL [] := fun b r h => by cases h
theorem stop_cls (cs : List (List UInt8)) : stopL (clsL cs) := by
  cases cs with
  | nil => exact stop_nil
  | cons c cs =>
    intro b r h
    have : b = 46 := by
      unfold clsL at h
      rw [List.flatMap_cons] at h
      injection h with h1 _
      exact h1.symm
    subst this
    decide
theorem stop_id (id : List UInt8) (cs : List (List UInt8)) : stopL (idL id ++ clsL cs) := by
  unfold idL
  split
  · exact stop_cls cs
  · intro b r h
    injection h with h1 _
    subst h1
    decide
theorem head_id {id : List UInt8} {cs : List (List UInt8)} {b : UInt8} {r : List UInt8} (h : idL id ++ clsL cs = b :: r) : b ≠ 42 := by
  unfold idL at h
  split at h
  · rw [List.nil_append] at h
    cases cs with
    | nil => cases h
    | cons c cs =>
      unfold clsL at h
      rw [List.flatMap_cons] at h
      injection h with h1 _
      rw [← h1]; decide
  · injection h with h1 _
    rw [← h1]; decide
/-- Classes as the specification reads them. -/
def clsS : Nat → List UInt8 → List (List UInt8) → Option (List (List UInt8))
  | 0, _, _ => none
  | f + 1, l, acc => match l with
    | [] => some acc
    | b :: t => if b = 46 then (if runL t = 0 ∨ acc.length = 4 then none else clsS f (t.drop (runL t)) (acc ++ [t.take (runL t)])) else none
theorem clsS_full : ∀ (cs : List (List UInt8)) (f : Nat) (acc : List (List UInt8)), (∀ c, c ∈ cs → wordL c = true) → (clsL cs).length < f → acc.length + cs.length ≤ 4 → clsS f (clsL cs) acc = some (acc ++ cs) := by
  intro cs
  induction cs with
  | nil =>
    intro f acc _ hf _
    cases f with
    | zero => simp at hf
    | succ f => show some acc = some (acc ++ []); rw [List.append_nil]
  | cons c cs ih =>
    intro f acc hw hf ha
    cases f with
    | zero => simp at hf
    | succ f =>
      have hc := hw c (by simp)
      have hr := runL_word hc (stop_cls cs)
      have hne : c.length ≠ 0 := by
        unfold wordL at hc
        simp only [Bool.and_eq_true, decide_eq_true_eq] at hc
        omega
      have e : clsL (c :: cs) = 46 :: (c ++ clsL cs) := by unfold clsL; rw [List.flatMap_cons]; rfl
      rw [e] at hf ⊢
      simp only [List.length_cons, List.length_append] at hf ha
      show (if (46 : UInt8) = 46 then (if runL (c ++ clsL cs) = 0 ∨ acc.length = 4 then none else clsS f ((c ++ clsL cs).drop (runL (c ++ clsL cs))) (acc ++ [(c ++ clsL cs).take (runL (c ++ clsL cs))])) else none) = _
      rw [if_pos rfl, hr, if_neg (by omega), List.drop_left, List.take_left, ih f (acc ++ [c]) (fun x hx => hw x (by simp [hx])) (by omega) (by simp; omega), List.append_assoc]
      rfl
theorem clsS_sound : ∀ (f : Nat) (l : List UInt8) (acc out : List (List UInt8)), clsS f l acc = some out → ∃ cs, out = acc ++ cs ∧ l = clsL cs ∧ (∀ c, c ∈ cs → wordL c = true) ∧ (acc.length ≤ 4 → out.length ≤ 4) := by
  intro f
  induction f with
  | zero => intro l acc out h; cases h
  | succ f ih =>
    intro l acc out h
    cases l with
    | nil =>
      injection h with h
      subst h
      exact ⟨[], (List.append_nil _).symm, rfl, (fun c hc => by cases hc), fun h => h⟩
    | cons b t =>
      replace h : (if b = 46 then (if runL t = 0 ∨ acc.length = 4 then none else clsS f (t.drop (runL t)) (acc ++ [t.take (runL t)])) else none) = some out := h
      split at h
      · rename_i hb
        subst hb
        split at h
        · cases h
        · rename_i hc
          have h0 : runL t ≠ 0 := fun e => hc (Or.inl e)
          have h4 : acc.length ≠ 4 := fun e => hc (Or.inr e)
          obtain ⟨hw, _, _⟩ := run_pos h0
          obtain ⟨cs, e1, e2, e3, e4⟩ := ih _ _ _ h
          refine ⟨t.take (runL t) :: cs, ?_, ?_, ?_, fun ha => e4 (by simp; omega)⟩
          · rw [e1, List.append_assoc]; rfl
          · show 46 :: t = clsL (t.take (runL t) :: cs)
            unfold clsL
            rw [List.flatMap_cons]
            show 46 :: t = 46 :: (t.take (runL t) ++ clsL cs)
            rw [← e2, List.take_append_drop]
          · intro c hc2
            rcases List.mem_cons.1 hc2 with e | hc2
            · rw [e]; exact hw
            · exact e3 c hc2
      · cases h
/-- The part's type ahead of a text. -/
def tyS (l : List UInt8) : List UInt8 × List UInt8 := match l with
  | [] => ([], [])
  | b :: t => if b = 42 then ([42], t) else ((b :: t).take (runL (b :: t)), (b :: t).drop (runL (b :: t)))
/-- The id ahead of what is left; none where a `#` has no word. -/
def idS (l : List UInt8) : Option (List UInt8 × List UInt8) := match l with
  | [] => some ([], [])
  | b :: t => if b = 35 then (if runL t = 0 then none else some (t.take (runL t), t.drop (runL t))) else some ([], b :: t)
/-- A part as the specification reads it. -/
def prs (l : List UInt8) : Option PL := if l = [] then none else
  match idS (tyS l).2 with
  | none => none
  | some (id, r) => match clsS (r.length + 1) r [] with
    | none => none
    | some cs => some ⟨(tyS l).1, id, cs⟩
theorem wordL_ne {l : List UInt8} (h : wordL l = true) : l ≠ [] := by
  rintro rfl
  revert h
  decide
theorem wordL_head {b : UInt8} {l : List UInt8} (h : wordL (b :: l) = true) : wbL b = true := by
  unfold wordL at h
  simp only [Bool.and_eq_true, List.all_cons] at h
  exact h.2.2.1
theorem prs_full {p : PL} (h : GoodL p) : prs (txtL p) = some p := by
  obtain ⟨ty, id, cls⟩ := p
  obtain ⟨h1, h2, h3, h4, h5⟩ := h
  simp only at h1 h2 h3 h4 h5
  have hne : txtL ⟨ty, id, cls⟩ ≠ [] := by
    unfold txtL idL clsL
    simp only
    rcases h5 with h | h | h
    · intro e; exact h (List.append_eq_nil_iff.1 e).1
    · rw [if_neg h]; intro e; have := (List.append_eq_nil_iff.1 e).2; cases this
    · cases cls with
      | nil => exact absurd rfl h
      | cons c cs =>
        intro e
        have := (List.append_eq_nil_iff.1 (List.append_eq_nil_iff.1 e).2).2
        rw [List.flatMap_cons] at this
        cases this
  have hrest := stop_id id cls
  have hty : tyS (txtL ⟨ty, id, cls⟩) = (ty, idL id ++ clsL cls) := by
    unfold txtL
    simp only
    have h42R : ∀ b r, idL id ++ clsL cls = b :: r → b ≠ 42 := fun b r e => head_id e
    generalize idL id ++ clsL cls = R at *
    rcases h3 with rfl | rfl | hw
    · rw [List.nil_append]
      cases R with
      | nil => rfl
      | cons b r =>
        have hb := hrest b r rfl
        have hr0 : runL (b :: r) = 0 := by
          unfold runL
          rw [List.takeWhile_cons, hb]
          rfl
        have h42 : b ≠ 42 := h42R b r rfl
        show (if b = 42 then ([42], r) else ((b :: r).take (runL (b :: r)), (b :: r).drop (runL (b :: r)))) = _
        rw [if_neg h42, hr0]
        rfl
    · rfl
    · have hr := runL_word hw hrest
      cases ty with
      | nil => exact absurd rfl (wordL_ne hw)
      | cons b t =>
        have hb := wordL_head hw
        have h42 : b ≠ 42 := by rintro rfl; revert hb; decide
        unfold tyS
        simp only [List.cons_append]
        rw [if_neg h42]
        have e : b :: (t ++ R) = (b :: t) ++ R := rfl
        rw [e, hr, List.take_left, List.drop_left]
  have hid : idS (idL id ++ clsL cls) = some (id, clsL cls) := by
    unfold idL
    split
    · rename_i e
      subst e
      rw [List.nil_append]
      cases cls with
      | nil => rfl
      | cons c cs => rfl
    · rename_i e
      rcases h4 with h | h
      · exact absurd h e
      · have hr := runL_word h (stop_cls cls)
        show (if (35 : UInt8) = 35 then (if runL (id ++ clsL cls) = 0 then none else some ((id ++ clsL cls).take (runL (id ++ clsL cls)), (id ++ clsL cls).drop (runL (id ++ clsL cls)))) else some ([], 35 :: (id ++ clsL cls))) = _
        rw [if_pos rfl, hr, if_neg (fun e2 => e (List.eq_nil_of_length_eq_zero e2)), List.take_left, List.drop_left]
  unfold prs
  rw [if_neg hne, hty]
  simp only
  rw [hid]
  simp only
  rw [clsS_full cls _ [] h2 (Nat.lt_succ_self _) (by simpa using h1)]
  rfl
theorem prs_sound {l : List UInt8} {p : PL} (h : prs l = some p) : GoodL p ∧ txtL p = l := by
  unfold prs at h
  split at h
  · cases h
  · rename_i hne
    cases hi : idS (tyS l).2 with
    | none => rw [hi] at h; cases h
    | some x =>
      obtain ⟨id, r⟩ := x
      rw [hi] at h
      simp only at h
      cases hc : clsS (r.length + 1) r [] with
      | none => rw [hc] at h; cases h
      | some cs =>
        rw [hc] at h
        simp only at h
        injection h with h
        subst h
        obtain ⟨cs', e1, e2, e3, e4⟩ := clsS_sound _ _ _ _ hc
        rw [List.nil_append] at e1
        subst e1
        have hty : ((tyS l).1 = [] ∨ (tyS l).1 = [42] ∨ wordL (tyS l).1 = true) ∧ (tyS l).1 ++ (tyS l).2 = l := by
          cases l with
          | nil => exact absurd rfl hne
          | cons b t =>
            by_cases hb : b = 42
            · subst hb
              exact ⟨Or.inr (Or.inl rfl), rfl⟩
            · have e : tyS (b :: t) = ((b :: t).take (runL (b :: t)), (b :: t).drop (runL (b :: t))) := by
                show (if b = 42 then ([42], t) else _) = _
                rw [if_neg hb]
              rw [e]
              refine ⟨?_, List.take_append_drop _ _⟩
              by_cases h0 : runL (b :: t) = 0
              · rw [h0]; exact Or.inl rfl
              · exact Or.inr (Or.inr (run_pos h0).1)
        have hid : (id = [] ∨ wordL id = true) ∧ idL id ++ r = (tyS l).2 := by
          generalize (tyS l).2 = R at *
          cases R with
          | nil =>
            injection hi with hi
            injection hi with i1 i2
            subst i1 i2
            exact ⟨Or.inl rfl, rfl⟩
          | cons b t =>
            by_cases hb : b = 35
            · subst hb
              replace hi : (if (35 : UInt8) = 35 then (if runL t = 0 then none else some (t.take (runL t), t.drop (runL t))) else some ([], 35 :: t)) = some (id, r) := hi
              rw [if_pos rfl] at hi
              split at hi
              · cases hi
              · rename_i h0
                injection hi with hi
                injection hi with i1 i2
                have hw := (run_pos h0).1
                rw [i1] at hw
                refine ⟨Or.inr hw, ?_⟩
                unfold idL
                rw [if_neg (wordL_ne hw), ← i1, ← i2]
                show 35 :: (t.take (runL t) ++ t.drop (runL t)) = 35 :: t
                rw [List.take_append_drop]
            · replace hi : (if b = 35 then (if runL t = 0 then none else some (t.take (runL t), t.drop (runL t))) else some ([], b :: t)) = some (id, r) := hi
              rw [if_neg hb] at hi
              injection hi with hi
              injection hi with i1 i2
              subst i1 i2
              exact ⟨Or.inl rfl, rfl⟩
        have htx : txtL ⟨(tyS l).1, id, cs⟩ = l := by
          unfold txtL
          simp only
          rw [← e2, hid.2, hty.2]
        refine ⟨⟨e4 (by simp), e3, hty.1, hid.1, ?_⟩, htx⟩
        simp only
        by_cases c1 : (tyS l).1 = []
        · by_cases c2 : id = []
          · refine Or.inr (Or.inr fun c3 => hne ?_)
            rw [← htx, c1, c2, c3]
            rfl
          · exact Or.inr (Or.inl c2)
        · exact Or.inl c1
/-- What the specification reads is what has that text. -/
theorem prs_iff (l : List UInt8) (p : PL) : prs l = some p ↔ GoodL p ∧ txtL p = l := by
  constructor
  · exact prs_sound
  · rintro ⟨h, rfl⟩
    exact prs_full h
/-- A text parted at its points. -/
def dots : List UInt8 → List UInt8 × List (List UInt8)
  | [] => ([], [])
  | b :: l => if b = 46 then ([], (dots l).1 :: (dots l).2) else (b :: (dots l).1, (dots l).2)
theorem dots_join : ∀ l, (dots l).1 ++ clsL (dots l).2 = l := by
  intro l
  induction l with
  | nil => rfl
  | cons b l ih =>
    rw [dots]
    split
    · rename_i h
      subst h
      show clsL ((dots l).1 :: (dots l).2) = _
      unfold clsL
      rw [List.flatMap_cons]
      show 46 :: ((dots l).1 ++ clsL (dots l).2) = _
      rw [ih]
    · show b :: ((dots l).1 ++ clsL (dots l).2) = _
      rw [ih]
theorem dots_text : ∀ (cs : List (List UInt8)), (∀ c, c ∈ cs → (46 : UInt8) ∉ c) → ∀ a : List UInt8, (46 : UInt8) ∉ a → dots (a ++ clsL cs) = (a, cs) := by
  intro cs
  induction cs with
  | nil =>
    intro _ a
    induction a with
    | nil => intro _; rfl
    | cons b a iha =>
      intro h
      have h1 := iha (fun x => h (List.mem_cons_of_mem _ x))
      show dots (b :: (a ++ clsL [])) = _
      rw [dots, if_neg (fun e => h (by rw [e]; exact List.mem_cons_self)), h1]
  | cons c cs ih =>
    intro hc a
    induction a with
    | nil =>
      intro _
      have h1 := ih (fun x hx => hc x (List.mem_cons_of_mem _ hx)) c (hc c List.mem_cons_self)
      have e : clsL (c :: cs) = 46 :: (c ++ clsL cs) := by unfold clsL; rw [List.flatMap_cons]; rfl
      rw [List.nil_append, e, dots, if_pos rfl, h1]
    | cons b a iha =>
      intro h
      have h1 := iha (fun x => h (List.mem_cons_of_mem _ x))
      show dots (b :: (a ++ clsL (c :: cs))) = _
      rw [dots, if_neg (fun e => h (by rw [e]; exact List.mem_cons_self)), h1]
/-- A text cut at its first `#`. -/
def cutH : List UInt8 → List UInt8 × List UInt8 × Bool
  | [] => ([], [], false)
  | b :: l => if b = 35 then ([], l, true) else (b :: (cutH l).1, (cutH l).2.1, (cutH l).2.2)
theorem cutH_join : ∀ l, ((cutH l).2.2 = true → l = (cutH l).1 ++ 35 :: (cutH l).2.1) ∧ ((cutH l).2.2 = false → l = (cutH l).1 ∧ (cutH l).2.1 = []) := by
  intro l
  induction l with
  | nil => exact ⟨(fun h => by cases h), fun _ => ⟨rfl, rfl⟩⟩
  | cons b l ih =>
    rw [cutH]
    split
    · rename_i h
      subst h
      exact ⟨fun _ => rfl, (fun h => by cases h)⟩
    · refine ⟨fun h => ?_, fun h => ?_⟩
      · have := ih.1 h
        show b :: l = b :: ((cutH l).1 ++ 35 :: (cutH l).2.1)
        rw [← this]
      · obtain ⟨h1, h2⟩ := ih.2 h
        exact ⟨congrArg (List.cons b) h1, h2⟩
theorem cutH_text : ∀ (a id : List UInt8), (35 : UInt8) ∉ a → cutH (a ++ idL id) = (a, id, decide (id ≠ [])) := by
  intro a id
  induction a with
  | nil =>
    intro _
    rw [List.nil_append]
    unfold idL
    split
    · rename_i h; subst h; rfl
    · rename_i h
      rw [cutH, if_pos rfl, decide_eq_true h]
  | cons b a ih =>
    intro h
    have h1 := ih (fun x => h (List.mem_cons_of_mem _ x))
    show cutH (b :: (a ++ idL id)) = _
    rw [cutH, if_neg (fun e => h (by rw [e]; exact List.mem_cons_self)), h1]
/-- A part as the program reads it. -/
def prI (l : List UInt8) : PL := ⟨(cutH (dots l).1).1, (cutH (dots l).1).2.1, (dots l).2⟩
def prIok (l : List UInt8) : Prop := GoodL (prI l) ∧ ¬ ((cutH (dots l).1).2.2 = true ∧ (cutH (dots l).1).2.1 = [])
theorem not_in_word {w : List UInt8} {b : UInt8} (h : wordL w = true) (hb : wbL b = false) : b ∉ w := by
  intro hm
  unfold wordL at h
  simp only [Bool.and_eq_true] at h
  have := List.all_eq_true.1 h.2.2 b hm
  rw [hb] at this
  cases this
theorem prI_sound {l : List UInt8} (h : prIok l) : txtL (prI l) = l := by
  obtain ⟨h1, h2⟩ := h
  have hj := dots_join l
  have hc := cutH_join (dots l).1
  unfold txtL prI
  simp only
  cases hb : (cutH (dots l).1).2.2 with
  | true =>
    have h3 : (cutH (dots l).1).2.1 ≠ [] := fun e => h2 ⟨hb, e⟩
    have h4 := hc.1 hb
    unfold idL
    rw [if_neg h3, ← List.append_assoc, ← h4, hj]
  | false =>
    obtain ⟨h4, h5⟩ := hc.2 hb
    rw [h5]
    unfold idL
    rw [if_pos rfl, List.nil_append, ← h4, hj]
theorem prI_full {p : PL} (h : GoodL p) : prI (txtL p) = p ∧ prIok (txtL p) := by
  obtain ⟨ty, id, cls⟩ := p
  have hw46 : wbL 46 = false := by decide
  have hw35 : wbL 35 = false := by decide
  have n46c : ∀ c, c ∈ cls → (46 : UInt8) ∉ c := fun c hc => not_in_word (h.cls c hc) hw46
  have n46t : (46 : UInt8) ∉ ty := by
    rcases h.ty with e | e | e
    · simp only at e; rw [e]; simp
    · simp only at e; rw [e]; decide
    · exact not_in_word e hw46
  have n35t : (35 : UInt8) ∉ ty := by
    rcases h.ty with e | e | e
    · simp only at e; rw [e]; simp
    · simp only at e; rw [e]; decide
    · exact not_in_word e hw35
  have n46i : (46 : UInt8) ∉ idL id := by
    unfold idL
    split
    · simp
    · rename_i e
      rcases h.id with e2 | e2
      · exact absurd e2 e
      · intro hm
        rcases List.mem_cons.1 hm with e3 | hm
        · revert e3; decide
        · exact not_in_word e2 hw46 hm
  have hd : dots (txtL ⟨ty, id, cls⟩) = (ty ++ idL id, cls) := by
    unfold txtL
    simp only
    rw [← List.append_assoc]
    exact dots_text cls n46c (ty ++ idL id) (fun hm => by
      rcases List.mem_append.1 hm with h | h
      · exact n46t h
      · exact n46i h)
  have hc := cutH_text ty id n35t
  have e : prI (txtL ⟨ty, id, cls⟩) = ⟨ty, id, cls⟩ := by
    unfold prI
    rw [hd]
    simp only
    rw [hc]
  refine ⟨e, by rw [e]; exact h, ?_⟩
  rw [hd]
  simp only
  rw [hc]
  simp only
  rintro ⟨h1, h2⟩
  rw [h2] at h1
  revert h1
  decide
/-- Both readers answer alike. -/
theorem prs_prI (l : List UInt8) : (prIok l → prs l = some (prI l)) ∧ (¬ prIok l → prs l = none) := by
  constructor
  · intro h
    exact (prs_iff l _).2 ⟨h.1, prI_sound h⟩
  · intro h
    cases e : prs l with
    | none => rfl
    | some p =>
      exfalso
      obtain ⟨h1, h2⟩ := (prs_iff l p).1 e
      have h3 := (prI_full h1).2
      rw [h2] at h3
      exact h h3
end Go.Proofs.YtnkmdmmlpidcmaaDoor
