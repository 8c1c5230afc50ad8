/-
  A declaration read from its text, on lists of bytes: as the specification reads it and as the program does: they are one; pure facts.
-/
import Derived.Test.YtnkmdmmlpidcmaaDoorSwP
import Derived.Test.YtnkmdmmlpidcmaaDoorTrB
namespace Go.Proofs.YtnkmdmmlpidcmaaDoor
set_option linter.unusedVariables false

def tlL (l : List UInt8) : List UInt8 := Lib.trimLeftS l bl4
def trL (l : List UInt8) : List UInt8 := Lib.trimRightS l bl4
def tmL (l : List UInt8) : List UInt8 := Lib.trimS l bl4
abbrev bk (b : UInt8) : Bool := bl4.contains b
theorem tmL_def (l : List UInt8) : tmL l = tlL (trL l) := rfl
/-- Neither the first nor the last one is a blank. -/
def Neat (t : List UInt8) : Prop := (∀ b r, t = b :: r → bk b = false) ∧ (∀ b r, t = r ++ [b] → bk b = false)
theorem dropW_all {p : UInt8 → Bool} {a r : List UInt8} (ha : a.all p = true) : (a ++ r).dropWhile p = r.dropWhile p := by
  induction a with
  | nil => rfl
  | cons b a ih =>
    rw [List.all_cons, Bool.and_eq_true] at ha
    rw [List.cons_append, List.dropWhile_cons, if_pos ha.1, ih ha.2]
theorem dropW_stop {p : UInt8 → Bool} {r : List UInt8} (h : ∀ b t, r = b :: t → p b = false) : r.dropWhile p = r := by
  cases r with
  | nil => rfl
  | cons b t => rw [List.dropWhile_cons, h b t rfl]; rfl
theorem trL_app {a b : List UInt8} (hb : b.all bk = true) (ha : ∀ c r, a = r ++ [c] → bk c = false) : trL (a ++ b) = a := by
  unfold trL Lib.trimRightS
  rw [List.reverse_append, dropW_all (by rw [List.all_reverse]; exact hb), dropW_stop, List.reverse_reverse]
  intro c t h
  refine ha c t.reverse ?_
  have := congrArg List.reverse h
  rw [List.reverse_reverse] at this
  rw [this, List.reverse_cons]
theorem tlL_app {a b : List UInt8} (ha : a.all bk = true) (hb : ∀ c r, b = c :: r → bk c = false) : tlL (a ++ b) = b := by
  unfold tlL Lib.trimLeftS
  rw [dropW_all ha, dropW_stop hb]
theorem last_app {a t r : List UInt8} {c : UInt8} (h : a ++ t = r ++ [c]) (ht : t ≠ []) : ∃ r', t = r' ++ [c] := by
  have e := List.dropLast_concat_getLast ht
  refine ⟨t.dropLast, ?_⟩
  rw [← e, ← List.append_assoc] at h
  have := (List.append_inj' h rfl).2
  injection this with this
  rw [← this]
  exact e.symm
theorem last58 {t r : List UInt8} {c : UInt8} (h : 58 :: t = r ++ [c]) (ht : ∀ c r, t = r ++ [c] → bk c = false) : bk c = false := by
  by_cases h0 : t = []
  · subst h0
    have := (List.append_inj' (s₁ := []) (t₁ := [58]) h rfl).2
    injection this with this
    rw [← this]; decide
  · obtain ⟨r', e⟩ := last_app (a := [58]) h h0
    exact ht c r' e
/-- How a trimmed text is found. -/
theorem tmL_of {a t b : List UInt8} (ha : a.all bk = true) (hb : b.all bk = true) (ht : Neat t) : tmL (a ++ (t ++ b)) = t := by
  rw [tmL_def]
  by_cases h0 : t = []
  · subst h0
    have e : a ++ ([] ++ b) = [] ++ (a ++ b) := by simp
    rw [e, trL_app (by rw [List.all_append, ha, hb]; rfl) (fun c r h => by simp at h)]
    rfl
  · rw [← List.append_assoc, trL_app hb (fun c r h => ?_), tlL_app ha (fun c r h => ht.1 c r h)]
    obtain ⟨r', e⟩ := last_app h h0
    exact ht.2 c r' e
theorem all_take_while (p : UInt8 → Bool) (l : List UInt8) : (l.takeWhile p).all p = true := by
  rw [List.all_eq_true]
  intro b hb
  exact List.all_eq_true.1 (List.all_takeWhile (l := l) (p := p)) b hb
theorem trL_split (l : List UInt8) : ∃ b, l = trL l ++ b ∧ b.all bk = true ∧ ∀ c r, trL l = r ++ [c] → bk c = false := by
  refine ⟨(l.reverse.takeWhile bk).reverse, ?_, by rw [List.all_reverse]; exact all_take_while _ _, fun c r h => ?_⟩
  · unfold trL Lib.trimRightS
    rw [← List.reverse_append, List.takeWhile_append_dropWhile, List.reverse_reverse]
  · unfold trL Lib.trimRightS at h
    have h2 := congrArg List.reverse h
    rw [List.reverse_reverse, List.reverse_append] at h2
    have h3 := List.head?_dropWhile_not bk l.reverse
    have h4 : List.dropWhile (fun x => bl4.contains x) l.reverse = List.dropWhile bk l.reverse := rfl
    rw [← h4, h2] at h3
    simpa using h3
theorem tlL_split (l : List UInt8) : ∃ a, l = a ++ tlL l ∧ a.all bk = true ∧ ∀ c r, tlL l = c :: r → bk c = false := by
  refine ⟨l.takeWhile bk, (List.takeWhile_append_dropWhile (p := bk) (l := l)).symm, all_take_while _ _, fun c r h => ?_⟩
  have h3 := List.head?_dropWhile_not bk l
  have h4 : tlL l = List.dropWhile bk l := rfl
  rw [← h4, h] at h3
  simpa using h3
theorem tmL_split (l : List UInt8) : ∃ a b, l = a ++ (tmL l ++ b) ∧ a.all bk = true ∧ b.all bk = true ∧ Neat (tmL l) := by
  obtain ⟨b, hb1, hb2, hb3⟩ := trL_split l
  obtain ⟨a, ha1, ha2, ha3⟩ := tlL_split (trL l)
  refine ⟨a, b, ?_, ha2, hb2, fun c r h => ha3 c r h, fun c r h => ?_⟩
  · rw [tmL_def, ← List.append_assoc, ← ha1]; exact hb1
  · refine hb3 c (a ++ r) ?_
    rw [ha1]
    have : tlL (trL l) = r ++ [c] := h
    rw [this, List.append_assoc]
theorem bk_word {b : UInt8} (h : wbL b = true) : bk b = false := by
  rw [show bk b = blankN b.toNat from bl4_has b]
  unfold blankN
  unfold wbL at h
  rw [decide_eq_true_eq] at h
  exact decide_eq_false (by omega)
theorem word_neat {w : List UInt8} (h : wordL w = true) : Neat w := by
  unfold wordL at h
  simp only [Bool.and_eq_true] at h
  have ha := List.all_eq_true.1 h.2.2
  refine ⟨fun b r e => bk_word (ha b (by rw [e]; simp)), fun b r e => bk_word (ha b (by rw [e]; simp))⟩
def markL10 : List UInt8 := [33, 105, 109, 112, 111, 114, 116, 97, 110, 116]
def lowB (b : UInt8) : UInt8 := if 65 ≤ b.toNat ∧ b.toNat ≤ 90 then b + 32 else b
def lowL (l : List UInt8) : List UInt8 := l.map lowB
/-- What a value's text says: the value, and whether the mark stands behind it. -/
def valS (v : List UInt8) : List UInt8 × Bool := if markL10.isSuffixOf v then (tmL (v.take (v.length - 10)), true) else (v, false)
def valI (v : List UInt8) : List UInt8 × Bool := if markL10.isSuffixOf v then (trL (v.take (v.length - 10)), true) else (trL v, false)
def fit60 (l : List UInt8) : Bool := decide (1 ≤ l.length ∧ l.length ≤ 60)
/-- As the specification reads. -/
def declS (l : List UInt8) : Option (List UInt8 × List UInt8 × Bool) :=
  if runL (tmL l) = 0 then none else
  match tmL ((tmL l).drop (runL (tmL l))) with
  | [] => none
  | c :: v => if c = 58 then (if fit60 (valS (tmL v)).1 then some (lowL ((tmL l).take (runL (tmL l))), (valS (tmL v)).1, (valS (tmL v)).2) else none) else none
/-- A text cut at its first colon. -/
def nmC (l : List UInt8) : List UInt8 := if brk 58 l < l.length then l.take (brk 58 l) else l
def vlC (l : List UInt8) : List UInt8 := if brk 58 l < l.length then l.drop (brk 58 l + 1) else []
/-- As the program reads. -/
def declI (l : List UInt8) : Option (List UInt8 × List UInt8 × Bool) :=
  if wordL (tmL (nmC l)) && fit60 (valI (tmL (vlC l))).1 then some (lowL (tmL (nmC l)), (valI (tmL (vlC l))).1, (valI (tmL (vlC l))).2) else none
theorem trL_neat {t : List UInt8} (h : Neat t) : trL t = t := by
  have := trL_app (a := t) (b := []) rfl h.2
  rwa [List.append_nil] at this
theorem val_eq {v : List UInt8} (h : Neat v) : valI v = valS v := by
  unfold valI valS
  split
  · congr 1
    rw [tmL_def]
    obtain ⟨b, hb, _, _⟩ := trL_split (v.take (v.length - 10))
    have hs : ∀ c r, trL (v.take (v.length - 10)) = c :: r → bk c = false := by
      intro c r e
      have e2 : v = c :: (r ++ (b ++ v.drop (v.length - 10))) := by
        conv => lhs; rw [← List.take_append_drop (v.length - 10) v, hb, e]
        simp
      exact h.1 c _ e2
    have := tlL_app (a := []) (b := trL (v.take (v.length - 10))) rfl hs
    rw [List.nil_append] at this
    exact this.symm
  · rw [trL_neat h]
theorem neat_tm (l : List UInt8) : Neat (tmL l) := by
  obtain ⟨_, _, _, _, _, h⟩ := tmL_split l
  exact h
theorem stop_of {b : List UInt8} {r : List UInt8} (hb : b.all bk = true) : stopL (b ++ 58 :: r) := by
  cases b with
  | nil =>
    intro c t e
    injection e with e1 _
    subst e1
    decide
  | cons x b =>
    intro c t e
    injection e with e1 _
    subst e1
    rw [List.all_cons, Bool.and_eq_true] at hb
    cases hw : wbL x with
    | false => rfl
    | true => rw [bk_word hw] at hb; cases hb.1
theorem tm_tr (v : List UInt8) : tmL (trL v) = tmL v := by
  rw [tmL_def, tmL_def]
  congr 1
  obtain ⟨b, _, _, h⟩ := trL_split v
  have := trL_app (a := trL v) (b := []) rfl h
  rwa [List.append_nil] at this
/-- Where the name is a word and the colon stands behind it. -/
theorem declS_at {a w b v : List UInt8} (ha : a.all bk = true) (hb : b.all bk = true) (hw : wordL w = true) :
    declS (a ++ (w ++ (b ++ 58 :: v))) = if fit60 (valS (tmL v)).1 then some (lowL w, (valS (tmL v)).1, (valS (tmL v)).2) else none := by
  obtain ⟨e, he1, he2, he3⟩ := trL_split v
  have hn : Neat (w ++ (b ++ 58 :: trL v)) := by
    constructor
    · intro c r h
      cases w with
      | nil => exact absurd rfl (wordL_ne hw)
      | cons x w =>
        injection h with h1 _
        subst h1
        exact bk_word (wordL_head hw)
    · intro c r h
      obtain ⟨r1, e1⟩ := last_app h (by simp)
      obtain ⟨r2, e2⟩ := last_app e1 (by simp)
      exact last58 e2 he3
  have e1 : tmL (a ++ (w ++ (b ++ 58 :: v))) = w ++ (b ++ 58 :: trL v) := by
    have := tmL_of (a := a) (t := w ++ (b ++ 58 :: trL v)) (b := e) ha he2 hn
    rw [← this]
    congr 1
    conv => lhs; rw [he1]
    simp [List.append_assoc]
  have e2 : runL (w ++ (b ++ 58 :: trL v)) = w.length := runL_word hw (stop_of hb)
  have hw0 : w.length ≠ 0 := fun h => wordL_ne hw (List.eq_nil_of_length_eq_zero h)
  have e3 : tmL (b ++ 58 :: trL v) = 58 :: trL v := by
    have hn2 : Neat (58 :: trL v) := by
      constructor
      · intro c r h; injection h with h1 _; rw [← h1]; decide
      · intro c r h
        exact last58 h he3
    have := tmL_of (a := b) (t := 58 :: trL v) (b := []) hb rfl hn2
    rwa [List.append_nil] at this
  unfold declS
  rw [e1, e2, if_neg hw0, List.drop_left, List.take_left, e3]
  simp only
  rw [if_pos trivial, tm_tr]
theorem not_58 {b : List UInt8} (h : b.all bk = true) : (58 : UInt8) ∉ b := by
  intro hm
  have := List.all_eq_true.1 h _ hm
  revert this
  decide
theorem brk_of {c : UInt8} : ∀ {a r : List UInt8}, c ∉ a → brk c (a ++ c :: r) = a.length := by
  intro a r
  induction a with
  | nil => intro _; rw [List.nil_append, brk_cons, if_pos rfl]; rfl
  | cons b a ih =>
    intro h
    rw [List.cons_append, brk_cons, if_neg (fun e => h (by rw [e]; exact List.mem_cons_self)), ih (fun x => h (List.mem_cons_of_mem _ x))]
    rfl
theorem declI_at {a w b v : List UInt8} (ha : a.all bk = true) (hb : b.all bk = true) (hw : wordL w = true) :
    declI (a ++ (w ++ (b ++ 58 :: v))) = if fit60 (valS (tmL v)).1 then some (lowL w, (valS (tmL v)).1, (valS (tmL v)).2) else none := by
  have h58 : (58 : UInt8) ∉ a ++ (w ++ b) := by
    intro hm
    rcases List.mem_append.1 hm with h | h
    · exact not_58 ha h
    · rcases List.mem_append.1 h with h | h
      · exact not_in_word hw (by decide) h
      · exact not_58 hb h
  have e0 : a ++ (w ++ (b ++ 58 :: v)) = (a ++ (w ++ b)) ++ 58 :: v := by simp [List.append_assoc]
  have e1 : brk 58 ((a ++ (w ++ b)) ++ 58 :: v) = (a ++ (w ++ b)).length := brk_of h58
  have hlt : (a ++ (w ++ b)).length < ((a ++ (w ++ b)) ++ 58 :: v).length := by simp; try omega
  have e2 : nmC ((a ++ (w ++ b)) ++ 58 :: v) = a ++ (w ++ b) := by unfold nmC; rw [e1, if_pos hlt, List.take_left]
  have e3 : vlC ((a ++ (w ++ b)) ++ 58 :: v) = v := by
    unfold vlC
    rw [e1, if_pos hlt, ← List.drop_drop, List.drop_left]
    rfl
  unfold declI
  rw [e0, e2, e3, tmL_of ha hb (word_neat hw), hw, val_eq (neat_tm v), Bool.true_and]
theorem brk_split (c : UInt8) (l : List UInt8) (h : brk c l < l.length) : l = l.take (brk c l) ++ c :: l.drop (brk c l + 1) ∧ c ∉ l.take (brk c l) := by
  refine ⟨?_, fun hm => ?_⟩
  · conv => lhs; rw [← List.take_append_drop (brk c l) l, List.drop_eq_getElem_cons h, brk_at c l h]
  · obtain ⟨i, hi, e⟩ := List.mem_iff_getElem.1 hm
    rw [List.length_take] at hi
    rw [List.getElem_take] at e
    exact brk_before c l i (by omega) (by omega) e
/-- Both readers answer alike. -/
theorem decl_one (l : List UInt8) : declS l = declI l := by
  by_cases hI : brk 58 l < l.length ∧ wordL (tmL (nmC l)) = true
  · obtain ⟨hlt, hw⟩ := hI
    obtain ⟨e1, _⟩ := brk_split 58 l hlt
    have en : nmC l = l.take (brk 58 l) := by unfold nmC; rw [if_pos hlt]
    rw [en] at hw
    obtain ⟨a, b, h1, h2, h3, _⟩ := tmL_split (l.take (brk 58 l))
    have e2 : l = a ++ (tmL (l.take (brk 58 l)) ++ (b ++ 58 :: l.drop (brk 58 l + 1))) := by
      conv => lhs; rw [e1, h1]
      simp [List.append_assoc]
    rw [e2, declS_at h2 h3 hw, declI_at h2 h3 hw]
  · have hno : declI l = none := by
      unfold declI
      rw [if_neg]
      intro hc
      rw [Bool.and_eq_true] at hc
      by_cases hlt : brk 58 l < l.length
      · exact hI ⟨hlt, hc.1⟩
      · have : vlC l = [] := by unfold vlC; rw [if_neg hlt]
        rw [this] at hc
        exact absurd hc.2 (by decide)
    rw [hno]
    unfold declS
    by_cases hn : runL (tmL l) = 0
    · rw [if_pos hn]
    · rw [if_neg hn]
      split
      · rfl
      · rename_i c v hr
        split
        · rename_i hc
          subst hc
          exfalso
          apply hI
          obtain ⟨a, b, h1, h2, h3, _⟩ := tmL_split l
          obtain ⟨hw, _, _⟩ := run_pos hn
          obtain ⟨a2, b2, g1, g2, g3, _⟩ := tmL_split ((tmL l).drop (runL (tmL l)))
          rw [hr] at g1
          have e : l = (a ++ ((tmL l).take (runL (tmL l)) ++ a2)) ++ 58 :: (v ++ (b2 ++ b)) := by
            conv => lhs; rw [h1, ← List.take_append_drop (runL (tmL l)) (tmL l), g1]
            simp [List.append_assoc]
          generalize (tmL l).take (runL (tmL l)) = w at *
          have h58 : (58 : UInt8) ∉ a ++ (w ++ a2) := by
            intro hm
            rcases List.mem_append.1 hm with h | h
            · exact not_58 h2 h
            · rcases List.mem_append.1 h with h | h
              · exact not_in_word hw (by decide) h
              · exact not_58 g2 h
          have hb := brk_of (r := v ++ (b2 ++ b)) h58
          rw [← e] at hb
          have hll : l.length = (a ++ (w ++ a2)).length + ((v ++ (b2 ++ b)).length + 1) := by
            conv => lhs; rw [e]
            rw [List.length_append, List.length_cons]
          have hlt : brk 58 l < l.length := by rw [hb, hll]; omega
          refine ⟨hlt, ?_⟩
          have en : nmC l = a ++ (w ++ a2) := by
            unfold nmC
            rw [if_pos hlt, hb]
            conv => lhs; arg 2; rw [e]
            exact List.take_left ..
          rw [en, tmL_of h2 g2 (word_neat hw)]
          exact hw
        · rfl
end Go.Proofs.YtnkmdmmlpidcmaaDoor
