/-
  A declaration read from its text, on lists of bytes: as the specification reads it and as the program does: they are one; pure facts.
  A declaration read by the program; each theorem names its conditions.
  Rows of declarations, and what the laws' helpers do with them; each theorem names its conditions.
  Marks laid into rows of declarations and looked for; each theorem names its conditions.
-/
import Derived.Test.YtnkmdmmlpidcmaaGreatDoorJAE
import Derived.Test.YtnkmdmmlpidcmaaGreatDoorJAP
import Derived.Test.YtnkmdmmlpidcmaaGreatDoorJAF
import Derived.Lib.Case
import Derived.Test.YtnkmdmmlpidcmaaGreatDoorJAC
namespace Go.Proofs.YtnkmdmmlpidcmaaGreatDoor
set_option linter.unusedVariables false

def tlL (l : List UInt8) : List UInt8 := Lib.trimLeftS l bl4
def trL (l : List UInt8) : List UInt8 := Lib.trimRightS l bl4
def tmL (l : List UInt8) : List UInt8 := Lib.trimS l bl4
abbrev bk (b : UInt8) : Bool := bl4.contains b
theorem tmL_def (l : List UInt8) : tmL l = tlL (trL l) := rfl
/-- Neither the first nor the last one is a blank. -/
def Neat (t : List UInt8) : Prop := (∀ b r, t = b :: r → bk b = false) ∧ (∀ b r, t = r ++ [b] → bk b = false)
theorem dropW_all {p : UInt8 → Bool} {a r : List UInt8} (ha : a.all p = true) : (a ++ r).dropWhile p = r.dropWhile p := by
  induction a with
  | nil => rfl
  | cons b a ih =>
    rw [List.all_cons, Bool.and_eq_true] at ha
    rw [List.cons_append, List.dropWhile_cons, if_pos ha.1, ih ha.2]
theorem dropW_stop {p : UInt8 → Bool} {r : List UInt8} (h : ∀ b t, r = b :: t → p b = false) : r.dropWhile p = r := by
  cases r with
  | nil => rfl
  | cons b t => rw [List.dropWhile_cons, h b t rfl]; rfl
theorem trL_app {a b : List UInt8} (hb : b.all bk = true) (ha : ∀ c r, a = r ++ [c] → bk c = false) : trL (a ++ b) = a := by
  unfold trL Lib.trimRightS
  rw [List.reverse_append, dropW_all (by rw [List.all_reverse]; exact hb), dropW_stop, List.reverse_reverse]
  intro c t h
  refine ha c t.reverse ?_
  have := congrArg List.reverse h
  rw [List.reverse_reverse] at this
  rw [this, List.reverse_cons]
theorem tlL_app {a b : List UInt8} (ha : a.all bk = true) (hb : ∀ c r, b = c :: r → bk c = false) : tlL (a ++ b) = b := by
  unfold tlL Lib.trimLeftS
  rw [dropW_all ha, dropW_stop hb]
theorem last_app {a t r : List UInt8} {c : UInt8} (h : a ++ t = r ++ [c]) (ht : t ≠ []) : ∃ r', t = r' ++ [c] := by
  have e := List.dropLast_concat_getLast ht
  refine ⟨t.dropLast, ?_⟩
  rw [← e, ← List.append_assoc] at h
  have := (List.append_inj' h rfl).2
  injection this with this
  rw [← this]
  exact e.symm
theorem last58 {t r : List UInt8} {c : UInt8} (h : 58 :: t = r ++ [c]) (ht : ∀ c r, t = r ++ [c] → bk c = false) : bk c = false := by
  by_cases h0 : t = []
  · subst h0
    have := (List.append_inj' (s₁ := []) (t₁ := [58]) h rfl).2
    injection this with this
    rw [← this]; decide
  · obtain ⟨r', e⟩ := last_app (a := [58]) h h0
    exact ht c r' e
/-- How a trimmed text is found. -/
theorem tmL_of {a t b : List UInt8} (ha : a.all bk = true) (hb : b.all bk = true) (ht : Neat t) : tmL (a ++ (t ++ b)) = t := by
  rw [tmL_def]
  by_cases h0 : t = []
  · subst h0
    have e : a ++ ([] ++ b) = [] ++ (a ++ b) := by simp
    rw [e, trL_app (by rw [List.all_append, ha, hb]; rfl) (fun c r h => by simp at h)]
    rfl
  · rw [← List.append_assoc, trL_app hb (fun c r h => ?_), tlL_app ha (fun c r h => ht.1 c r h)]
    obtain ⟨r', e⟩ := last_app h h0
    exact ht.2 c r' e
theorem all_take_while (p : UInt8 → Bool) (l : List UInt8) : (l.takeWhile p).all p = true := by
  rw [List.all_eq_true]
  intro b hb
  exact List.all_eq_true.1 (List.all_takeWhile (l := l) (p := p)) b hb
theorem trL_split (l : List UInt8) : ∃ b, l = trL l ++ b ∧ b.all bk = true ∧ ∀ c r, trL l = r ++ [c] → bk c = false := by
  refine ⟨(l.reverse.takeWhile bk).reverse, ?_, by rw [List.all_reverse]; exact all_take_while _ _, fun c r h => ?_⟩
  · unfold trL Lib.trimRightS
    rw [← List.reverse_append, List.takeWhile_append_dropWhile, List.reverse_reverse]
  · unfold trL Lib.trimRightS at h
    have h2 := congrArg List.reverse h
    rw [List.reverse_reverse, List.reverse_append] at h2
    have h3 := List.head?_dropWhile_not bk l.reverse
    have h4 : List.dropWhile (fun x => bl4.contains x) l.reverse = List.dropWhile bk l.reverse := rfl
    rw [← h4, h2] at h3
    simpa using h3
theorem tlL_split (l : List UInt8) : ∃ a, l = a ++ tlL l ∧ a.all bk = true ∧ ∀ c r, tlL l = c :: r → bk c = false := by
  refine ⟨l.takeWhile bk, (List.takeWhile_append_dropWhile (p := bk) (l := l)).symm, all_take_while _ _, fun c r h => ?_⟩
  have h3 := List.head?_dropWhile_not bk l
  have h4 : tlL l = List.dropWhile bk l := rfl
  rw [← h4, h] at h3
  simpa using h3
theorem tmL_split (l : List UInt8) : ∃ a b, l = a ++ (tmL l ++ b) ∧ a.all bk = true ∧ b.all bk = true ∧ Neat (tmL l) := by
  obtain ⟨b, hb1, hb2, hb3⟩ := trL_split l
  obtain ⟨a, ha1, ha2, ha3⟩ := tlL_split (trL l)
  refine ⟨a, b, ?_, ha2, hb2, fun c r h => ha3 c r h, fun c r h => ?_⟩
  · rw [tmL_def, ← List.append_assoc, ← ha1]; exact hb1
  · refine hb3 c (a ++ r) ?_
    rw [ha1]
    have : tlL (trL l) = r ++ [c] := h
    rw [this, List.append_assoc]
theorem bk_word {b : UInt8} (h : wbL b = true) : bk b = false := by
  rw [show bk b = blankN b.toNat from bl4_has b]
  unfold blankN
  unfold wbL at h
  rw [decide_eq_true_eq] at h
  exact decide_eq_false (by omega)
theorem word_neat {w : List UInt8} (h : wordL w = true) : Neat w := by
  unfold wordL at h
  simp only [Bool.and_eq_true] at h
  have ha := List.all_eq_true.1 h.2.2
  refine ⟨fun b r e => bk_word (ha b (by rw [e]; simp)), fun b r e => bk_word (ha b (by rw [e]; simp))⟩
def markL10 : List UInt8 := [33, 105, 109, 112, 111, 114, 116, 97, 110, 116]
def lowB (b : UInt8) : UInt8 := if 65 ≤ b.toNat ∧ b.toNat ≤ 90 then b + 32 else b
def lowL (l : List UInt8) : List UInt8 := l.map lowB
/-- What a value's text says: the value, and whether the mark stands behind it. -/
def valS (v : List UInt8) : List UInt8 × Bool := if markL10.isSuffixOf v then (tmL (v.take (v.length - 10)), true) else (v, false)
def valI (v : List UInt8) : List UInt8 × Bool := if markL10.isSuffixOf v then (trL (v.take (v.length - 10)), true) else (trL v, false)
def fit60 (l : List UInt8) : Bool := decide (1 ≤ l.length ∧ l.length ≤ 60)
/-- As the specification reads. -/
def declS (l : List UInt8) : Option (List UInt8 × List UInt8 × Bool) :=
  if runL (tmL l) = 0 then none else
  match tmL ((tmL l).drop (runL (tmL l))) with
  | [] => none
  | c :: v => if c = 58 then (if fit60 (valS (tmL v)).1 then some (lowL ((tmL l).take (runL (tmL l))), (valS (tmL v)).1, (valS (tmL v)).2) else none) else none
/-- A text cut at its first colon. -/
def nmC (l : List UInt8) : List UInt8 := if brk 58 l < l.length then l.take (brk 58 l) else l
def vlC (l : List UInt8) : List UInt8 := if brk 58 l < l.length then l.drop (brk 58 l + 1) else []
/-- As the program reads. -/
def declI (l : List UInt8) : Option (List UInt8 × List UInt8 × Bool) :=
  if wordL (tmL (nmC l)) && fit60 (valI (tmL (vlC l))).1 then some (lowL (tmL (nmC l)), (valI (tmL (vlC l))).1, (valI (tmL (vlC l))).2) else none
theorem trL_neat {t : List UInt8} (h : Neat t) : trL t = t := by
  have := trL_app (a := t) (b := []) rfl h.2
  rwa [List.append_nil] at this
theorem val_eq {v : List UInt8} (h : Neat v) : valI v = valS v := by
  unfold valI valS
  split
  · congr 1
    rw [tmL_def]
    obtain ⟨b, hb, _, _⟩ := trL_split (v.take (v.length - 10))
    have hs : ∀ c r, trL (v.take (v.length - 10)) = c :: r → bk c = false := by
      intro c r e
      have e2 : v = c :: (r ++ (b ++ v.drop (v.length - 10))) := by
        conv => lhs; rw [← List.take_append_drop (v.length - 10) v, hb, e]
        simp
      exact h.1 c _ e2
    have := tlL_app (a := []) (b := trL (v.take (v.length - 10))) rfl hs
    rw [List.nil_append] at this
    exact this.symm
  · rw [trL_neat h]
theorem neat_tm (l : List UInt8) : Neat (tmL l) := by
  obtain ⟨_, _, _, _, _, h⟩ := tmL_split l
  exact h
theorem stop_of {b : List UInt8} {r : List UInt8} (hb : b.all bk = true) : stopL (b ++ 58 :: r) := by
  cases b with
  | nil =>
    intro c t e
    injection e with e1 _
    subst e1
    decide
  | cons x b =>
    intro c t e
    injection e with e1 _
    subst e1
    rw [List.all_cons, Bool.and_eq_true] at hb
    cases hw : wbL x with
    | false => rfl
    | true => rw [bk_word hw] at hb; cases hb.1
theorem tm_tr (v : List UInt8) : tmL (trL v) = tmL v := by
  rw [tmL_def, tmL_def]
  congr 1
  obtain ⟨b, _, _, h⟩ := trL_split v
  have := trL_app (a := trL v) (b := []) rfl h
  rwa [List.append_nil] at this
/-- Where the name is a word and the colon stands behind it. -/
theorem declS_at {a w b v : List UInt8} (ha : a.all bk = true) (hb : b.all bk = true) (hw : wordL w = true) :
    declS (a ++ (w ++ (b ++ 58 :: v))) = if fit60 (valS (tmL v)).1 then some (lowL w, (valS (tmL v)).1, (valS (tmL v)).2) else none := by
  obtain ⟨e, he1, he2, he3⟩ := trL_split v
  have hn : Neat (w ++ (b ++ 58 :: trL v)) := by
    constructor
    · intro c r h
      cases w with
      | nil => exact absurd rfl (wordL_ne hw)
      | cons x w =>
        injection h with h1 _
        subst h1
        exact bk_word (wordL_head hw)
    · intro c r h
      obtain ⟨r1, e1⟩ := last_app h (by simp)
      obtain ⟨r2, e2⟩ := last_app e1 (by simp)
      exact last58 e2 he3
  have e1 : tmL (a ++ (w ++ (b ++ 58 :: v))) = w ++ (b ++ 58 :: trL v) := by
    have := tmL_of (a := a) (t := w ++ (b ++ 58 :: trL v)) (b := e) ha he2 hn
    rw [← this]
    congr 1
    conv => lhs; rw [he1]
    simp [List.append_assoc]
  have e2 : runL (w ++ (b ++ 58 :: trL v)) = w.length := runL_word hw (stop_of hb)
  have hw0 : w.length ≠ 0 := fun h => wordL_ne hw (List.eq_nil_of_length_eq_zero h)
  have e3 : tmL (b ++ 58 :: trL v) = 58 :: trL v := by
    have hn2 : Neat (58 :: trL v) := by
      constructor
      · intro c r h; injection h with h1 _; rw [← h1]; decide
      · intro c r h
        exact last58 h he3
    have := tmL_of (a := b) (t := 58 :: trL v) (b := []) hb rfl hn2
    rwa [List.append_nil] at this
  unfold declS
  rw [e1, e2, if_neg hw0, List.drop_left, List.take_left, e3]
  simp only
  rw [if_pos trivial, tm_tr]
theorem not_58 {b : List UInt8} (h : b.all bk = true) : (58 : UInt8) ∉ b := by
  intro hm
  have := List.all_eq_true.1 h _ hm
  revert this
  decide
theorem brk_of {c : UInt8} : ∀ {a r : List UInt8}, c ∉ a → brk c (a ++ c :: r) = a.length := by
  intro a r
  induction a with
  | nil => intro _; rw [List.nil_append, brk_cons, if_pos rfl]; rfl
  | cons b a ih =>
    intro h
    rw [List.cons_append, brk_cons, if_neg (fun e => h (by rw [e]; exact List.mem_cons_self)), ih (fun x => h (List.mem_cons_of_mem _ x))]
    rfl
theorem declI_at {a w b v : List UInt8} (ha : a.all bk = true) (hb : b.all bk = true) (hw : wordL w = true) :
    declI (a ++ (w ++ (b ++ 58 :: v))) = if fit60 (valS (tmL v)).1 then some (lowL w, (valS (tmL v)).1, (valS (tmL v)).2) else none := by
  have h58 : (58 : UInt8) ∉ a ++ (w ++ b) := by
    intro hm
    rcases List.mem_append.1 hm with h | h
    · exact not_58 ha h
    · rcases List.mem_append.1 h with h | h
      · exact not_in_word hw (by decide) h
      · exact not_58 hb h
  have e0 : a ++ (w ++ (b ++ 58 :: v)) = (a ++ (w ++ b)) ++ 58 :: v := by simp [List.append_assoc]
  have e1 : brk 58 ((a ++ (w ++ b)) ++ 58 :: v) = (a ++ (w ++ b)).length := brk_of h58
  have hlt : (a ++ (w ++ b)).length < ((a ++ (w ++ b)) ++ 58 :: v).length := by simp; try omega
  have e2 : nmC ((a ++ (w ++ b)) ++ 58 :: v) = a ++ (w ++ b) := by unfold nmC; rw [e1, if_pos hlt, List.take_left]
  have e3 : vlC ((a ++ (w ++ b)) ++ 58 :: v) = v := by
    unfold vlC
    rw [e1, if_pos hlt, ← List.drop_drop, List.drop_left]
    rfl
  unfold declI
  rw [e0, e2, e3, tmL_of ha hb (word_neat hw), hw, val_eq (neat_tm v), Bool.true_and]
theorem brk_split (c : UInt8) (l : List UInt8) (h : brk c l < l.length) : l = l.take (brk c l) ++ c :: l.drop (brk c l + 1) ∧ c ∉ l.take (brk c l) := by
  refine ⟨?_, fun hm => ?_⟩
  · conv => lhs; rw [← List.take_append_drop (brk c l) l, List.drop_eq_getElem_cons h, brk_at c l h]
  · obtain ⟨i, hi, e⟩ := List.mem_iff_getElem.1 hm
    rw [List.length_take] at hi
    rw [List.getElem_take] at e
    exact brk_before c l i (by omega) (by omega) e
/-- Both readers answer alike. -/
theorem decl_one (l : List UInt8) : declS l = declI l := by
  by_cases hI : brk 58 l < l.length ∧ wordL (tmL (nmC l)) = true
  · obtain ⟨hlt, hw⟩ := hI
    obtain ⟨e1, _⟩ := brk_split 58 l hlt
    have en : nmC l = l.take (brk 58 l) := by unfold nmC; rw [if_pos hlt]
    rw [en] at hw
    obtain ⟨a, b, h1, h2, h3, _⟩ := tmL_split (l.take (brk 58 l))
    have e2 : l = a ++ (tmL (l.take (brk 58 l)) ++ (b ++ 58 :: l.drop (brk 58 l + 1))) := by
      conv => lhs; rw [e1, h1]
      simp [List.append_assoc]
    rw [e2, declS_at h2 h3 hw, declI_at h2 h3 hw]
  · have hno : declI l = none := by
      unfold declI
      rw [if_neg]
      intro hc
      rw [Bool.and_eq_true] at hc
      by_cases hlt : brk 58 l < l.length
      · exact hI ⟨hlt, hc.1⟩
      · have : vlC l = [] := by unfold vlC; rw [if_neg hlt]
        rw [this] at hc
        exact absurd hc.2 (by decide)
    rw [hno]
    unfold declS
    by_cases hn : runL (tmL l) = 0
    · rw [if_pos hn]
    · rw [if_neg hn]
      split
      · rfl
      · rename_i c v hr
        split
        · rename_i hc
          subst hc
          exfalso
          apply hI
          obtain ⟨a, b, h1, h2, h3, _⟩ := tmL_split l
          obtain ⟨hw, _, _⟩ := run_pos hn
          obtain ⟨a2, b2, g1, g2, g3, _⟩ := tmL_split ((tmL l).drop (runL (tmL l)))
          rw [hr] at g1
          have e : l = (a ++ ((tmL l).take (runL (tmL l)) ++ a2)) ++ 58 :: (v ++ (b2 ++ b)) := by
            conv => lhs; rw [h1, ← List.take_append_drop (runL (tmL l)) (tmL l), g1]
            simp [List.append_assoc]
          generalize (tmL l).take (runL (tmL l)) = w at *
          have h58 : (58 : UInt8) ∉ a ++ (w ++ a2) := by
            intro hm
            rcases List.mem_append.1 hm with h | h
            · exact not_58 h2 h
            · rcases List.mem_append.1 h with h | h
              · exact not_in_word hw (by decide) h
              · exact not_58 g2 h
          have hb := brk_of (r := v ++ (b2 ++ b)) h58
          rw [← e] at hb
          have hll : l.length = (a ++ (w ++ a2)).length + ((v ++ (b2 ++ b)).length + 1) := by
            conv => lhs; rw [e]
            rw [List.length_append, List.length_cons]
          have hlt : brk 58 l < l.length := by rw [hb, hll]; omega
          refine ⟨hlt, ?_⟩
          have en : nmC l = a ++ (w ++ a2) := by
            unfold nmC
            rw [if_pos hlt, hb]
            conv => lhs; arg 2; rw [e]
            exact List.take_left ..
          rw [en, tmL_of h2 g2 (word_neat hw)]
          exact hw
        · rfl
end Go.Proofs.YtnkmdmmlpidcmaaGreatDoor
namespace Go.Proofs.YtnkmdmmlpidcmaaGreatDoor
open Go.ChangeShapes Go.WideShapes Go.ChangeAt Go.RowKit
set_option linter.unusedVariables false

/-- A declaration. -/
structure DD where
  nm : ByteArray
  vl : ByteArray
  im : Bool
def noDD : DD := ⟨⟨#[]⟩, ⟨#[]⟩, false⟩
def declP (s : ByteArray) : Option DD := (declI s.data.toList).map fun d => ⟨bA d.1, bA d.2.1, d.2.2⟩
def DeclSays (s : ByteArray) (e : Ending) : Prop :=
  (∃ d, declP s = some d ∧ e = .returned (.tuple #[.agg #[.string d.nm, .string d.vl, .bool d.im], .bool true])) ∨
  (declP s = none ∧ ∃ x y b, e = .returned (.tuple #[.agg #[.string x, .string y, .bool b], .bool false]))
theorem cutV_C (s : ByteArray) : ∃ b, cutV 58 s = .tuple #[.string (bA (nmC s.data.toList)), .string (bA (vlC s.data.toList)), .bool b] := by
  unfold cutV nmC vlC
  rw [data_len]
  by_cases h : brk 58 s.data.toList < s.size
  · rw [if_pos h, if_pos h, if_pos h, ext_head, ext_tail]; exact ⟨_, rfl⟩
  · rw [if_neg h, if_neg h, if_neg h, bA_data]; exact ⟨_, rfl⟩
theorem low_lower (l : List UInt8) : Lib.toLowerA l = lowL l := by
  unfold Lib.toLowerA lowL
  apply List.map_congr_left
  intro b _
  have e : Lib.isUpperB b = decide (65 ≤ b.toNat ∧ b.toNat ≤ 90) := by
    unfold Lib.isUpperB
    rw [Bool.eq_iff_iff]
    simp [UInt8.le_iff_toNat_le]
  unfold Lib.lowerB lowB
  rw [e]
  by_cases h : 65 ≤ b.toNat ∧ b.toNat ≤ 90
  · rw [if_pos h, if_pos (decide_eq_true h)]
  · rw [if_neg h, if_neg (by rw [decide_eq_false h]; simp)]
theorem tm_len (l : List UInt8) : (tmL l).length ≤ l.length := by
  obtain ⟨a, b, h, _⟩ := tmL_split l
  conv => rhs; rw [h]
  simp; omega
theorem tr_len (l : List UInt8) : (trL l).length ≤ l.length := by
  obtain ⟨b, h, _⟩ := trL_split l
  conv => rhs; rw [h]
  simp
theorem nmC_len (l : List UInt8) : (nmC l).length ≤ l.length ∧ (vlC l).length ≤ l.length := by
  unfold nmC vlC
  split <;> simp <;> omega
theorem word_ascii {l : List UInt8} (h : wordL l = true) : ∀ (j : Nat) (b : UInt8), l[j]? = some b → b.toNat < 128 := by
  intro j b hb
  unfold wordL at h
  simp only [Bool.and_eq_true] at h
  have := List.all_eq_true.1 h.2.2 b (List.mem_of_getElem? hb)
  unfold wbL at this
  rw [decide_eq_true_eq] at this
  omega
theorem igvs (w : World) (s : ByteArray) (hs : s.size ≤ 1048576) : Calls Tryz.prog 104 #[.string s] w fun e w' => e = .returned (.bool (fit60 s.data.toList)) ∧ w' = w := by
  unfold fit60
  rw [data_len]
  by_cases h0 : s.size = 0
  · obtain rfl := empty_of h0
    go_enter Tryz.func104, Tryz.ntmps104
    go_wp2
    go_ret
    exact ⟨rfl, rfl⟩
  · have n1 := ne_nil (s := s) (by omega)
    have n2 := ne_emp (s := s) (by omega)
    have HX : Hid (decide (1 ≤ s.size ∧ s.size ≤ 60) = decide ((s.size : Int) ≤ 60)) := by
      show _ = _
      rw [Bool.eq_iff_iff]; simp; omega
    go_enter Tryz.func104, Tryz.ntmps104
    go_wp2
    go_ret
    exact ⟨by rw [HX.out]; first | rfl | simp, rfl⟩
theorem itrim (s : ByteArray) (w : World) (hs : s.size ≤ 1048576) : Calls Tryz.prog 102 #[.string s, .string ⟨#[9, 10, 13, 32]⟩] w fun e w' => e = .returned (.string (bA (tmL s.data.toList))) ∧ Nw w w' := by
  refine (Any.strings_Trim_laid Tryz.lays160 (by kernel_rfl) s ⟨#[9, 10, 13, 32]⟩ w (by omega) (by decide) (ascii_of_all (by decide))).mono ?_
  rintro e w' ⟨rfl, h⟩
  exact ⟨rfl, h⟩
theorem itrimR (s : ByteArray) (w : World) (hs : s.size ≤ 1048576) : Calls Tryz.prog 149 #[.string s, .string ⟨#[9, 10, 13, 32]⟩] w fun e w' => e = .returned (.string (bA (trL s.data.toList))) ∧ Nw w w' := by
  refine (Any.strings_TrimRight_laid Tryz.lays162 (by kernel_rfl) s ⟨#[9, 10, 13, 32]⟩ w (by omega) (by decide) (ascii_of_all (by decide))).mono ?_
  rintro e w' ⟨rfl, h⟩
  exact ⟨rfl, h⟩
def sufL (v : List UInt8) : List UInt8 := if markL10.isSuffixOf v then v.take (v.length - 10) else v
theorem icutS (s : ByteArray) (w : World) (hs : s.size ≤ 1048576) : Calls Tryz.prog 148 #[.string s, .string ⟨#[33, 105, 109, 112, 111, 114, 116, 97, 110, 116]⟩] w fun e w' => e = .returned (.tuple #[.string (bA (sufL s.data.toList)), .bool (markL10.isSuffixOf s.data.toList)]) ∧ w' = w := by
  refine (Tryz.strings_CutSuffix s _ w (by omega)).mono ?_
  rintro e w' ⟨rfl, h⟩
  exact ⟨rfl, h⟩
theorem valI_suf (v : List UInt8) : valI v = (trL (sufL v), markL10.isSuffixOf v) := by
  unfold valI sufL
  split
  · rename_i h; rw [h]
  · rename_i h; rw [Bool.not_eq_true] at h; rw [h]
theorem suf_len (v : List UInt8) : (sufL v).length ≤ v.length := by unfold sufL; split <;> simp
theorem set3d (w : World) (b : Nat) (u0 u1 u2 : Value) {v0 v1 v2 : Value} (z0 : w.cell? ⟨b, 0, none⟩ = some v0) (z1 : w.cell? ⟨b, 1, none⟩ = some v1) (z2 : w.cell? ⟨b, 2, none⟩ = some v2) :
    (((w.setCell ⟨b, 0, none⟩ u0).setCell ⟨b, 1, none⟩ u1).setCell ⟨b, 2, none⟩ u2).cell? ⟨b, 0, none⟩ = some u0 ∧ (((w.setCell ⟨b, 0, none⟩ u0).setCell ⟨b, 1, none⟩ u1).setCell ⟨b, 2, none⟩ u2).cell? ⟨b, 1, none⟩ = some u1 ∧ (((w.setCell ⟨b, 0, none⟩ u0).setCell ⟨b, 1, none⟩ u1).setCell ⟨b, 2, none⟩ u2).cell? ⟨b, 2, none⟩ = some u2 := by
  have far : ∀ (w : World) (o o' : Nat) (u : Value), o ≠ o' → (w.setCell ⟨b, o, none⟩ u).cell? ⟨b, o', none⟩ = w.cell? ⟨b, o', none⟩ := fun w o o' u h => World.cell?_setCell_other _ _ _ _ (fun e => by injection e; omega)
  refine ⟨?_, ?_, ?_⟩
  · rw [far _ 2 0 _ (by omega), far _ 1 0 _ (by omega)]
    exact World.cell?_setCell_same w ⟨b, 0, none⟩ _ z0
  · rw [far _ 2 1 _ (by omega)]
    exact World.cell?_setCell_same _ ⟨b, 1, none⟩ _ ((far _ 0 1 _ (by omega)).trans z1)
  · exact World.cell?_setCell_same _ ⟨b, 2, none⟩ _ ((far _ 1 2 _ (by omega)).trans ((far _ 0 2 _ (by omega)).trans z2))
/-- A box of three cells. -/
structure Bx3 (b : Nat) (w : World) (u0 u1 u2 : Value) : Prop where
  c0 : w.cell? ⟨b, 0, none⟩ = some u0
  c1 : w.cell? ⟨b, 1, none⟩ = some u1
  c2 : w.cell? ⟨b, 2, none⟩ = some u2
  fz : ∀ o, w.frozen? ⟨b, o, none⟩ = false
theorem Bx3.lt {b : Nat} {w : World} {u0 u1 u2 : Value} (h : Bx3 b w u0 u1 u2) : b < w.heap.size := World.block_lt_of_cell? w ⟨b, 0, none⟩ h.c0
theorem Bx3.nw {b : Nat} {w w' : World} {u0 u1 u2 : Value} (h : Bx3 b w u0 u1 u2) (k : Nw w w') : Bx3 b w' u0 u1 u2 :=
  ⟨((bcell k).1 _ _ h.lt).trans h.c0, ((bcell k).1 _ _ h.lt).trans h.c1, ((bcell k).1 _ _ h.lt).trans h.c2, fun o => ((bcell k).2 _ _ h.lt).trans (h.fz o)⟩
theorem Bx3.new (w : World) (t : TypeId) (u0 u1 u2 : Value) : Bx3 w.heap.size (w.alloc (.cells #[u0, u1, u2] t)) u0 u1 u2 :=
  ⟨by simp, by simp, by simp, fun o => World.frozen?_alloc_at _ _ _ _ rfl⟩
set_option maxHeartbeats 8000000 in
theorem ideclOf (s : ByteArray) (w : World) (hs : s.size ≤ 1048576) :
    Calls Tryz.prog 108 #[.string s] w fun e w' => DeclSays s e ∧ Nw w w' := by
  obtain ⟨cb, hcut⟩ := cutV_C s
  have HCT : Hid _ := hcut
  obtain ⟨hn, hv⟩ := nmC_len s.data.toList
  rw [data_len] at hn hv
  have hn2 := tm_len (nmC s.data.toList)
  have hv2 := tm_len (vlC s.data.toList)
  have hv3 := suf_len (tmL (vlC s.data.toList))
  have hv4 := tr_len (sufL (tmL (vlC s.data.toList)))
  have hD : declI s.data.toList = if wordL (tmL (nmC s.data.toList)) && fit60 (trL (sufL (tmL (vlC s.data.toList)))) then some (lowL (tmL (nmC s.data.toList)), trL (sufL (tmL (vlC s.data.toList))), markL10.isSuffixOf (tmL (vlC s.data.toList))) else none := by
    unfold declI
    rw [valI_suf]
  have hDP : declP s = (declI s.data.toList).map fun d => ⟨bA d.1, bA d.2.1, d.2.2⟩ := rfl
  rw [hD] at hDP
  have HDP : Hid _ := hDP
  clear hcut hD hDP
  generalize nmC s.data.toList = N at *
  generalize vlC s.data.toList = V at *
  have HB0 : Hid (Bx3 w.heap.size (w.alloc (.cells #[.string ⟨#[]⟩, .string ⟨#[]⟩, .bool false] 36)) (.string ⟨#[]⟩) (.string ⟨#[]⟩) (.bool false)) := Bx3.new _ _ _ _ _
  have HN0 : Hid (Nw w (w.alloc (.cells #[.string ⟨#[]⟩, .string ⟨#[]⟩, .bool false] 36))) := (Below.refl _ _).alloc (Nat.le_refl _) _
  go_enter Tryz.func108, Tryz.ntmps108
  go_wp2_with fail
  refine Calls.mono (cut1 s 58 _ hs) ?_
  rw [HCT.out]
  rintro e w1 ⟨rfl, k1⟩
  have HN1 : Hid (Nw (w.alloc (.cells #[.string ⟨#[]⟩, .string ⟨#[]⟩, .bool false] 36)) w1) := k1
  clear k1
  go_wp2_with fail
  refine Calls.mono (itrim (bA N) _ (by rw [bA_size]; omega)) ?_
  rw [bA_list]
  rintro e w2 ⟨rfl, k2⟩
  have HN2 : Hid _ := Nw.trans HN1.out k2
  clear k2 HN1
  go_wp2_with fail
  refine Calls.mono (itrim (bA V) _ (by rw [bA_size]; omega)) ?_
  rw [bA_list]
  rintro e w3 ⟨rfl, k3⟩
  have HN3 : Hid _ := Nw.trans HN2.out k3
  clear k3 HN2
  go_wp2_with fail
  refine Calls.mono (icutS (bA (tmL V)) _ (by rw [bA_size]; omega)) ?_
  rw [bA_list]
  rintro e w4 ⟨rfl, hq⟩
  have hq2 := hq.symm; clear hq; subst hq2
  go_wp2_with fail
  refine Calls.mono (itrimR (bA (sufL (tmL V))) _ (by rw [bA_size]; omega)) ?_
  rw [bA_list]
  rintro e w5 ⟨rfl, k5⟩
  have HN5 : Hid _ := Nw.trans HN3.out k5
  clear k5 HN3
  generalize tmL N = NM at *
  generalize markL10.isSuffixOf (tmL V) = im at *
  generalize trL (sufL (tmL V)) = VL at *
  go_wp2_with fail
  refine Calls.mono (iword _ (bA NM) (by rw [bA_size]; omega)) ?_
  rw [wordB_L, bA_list]
  rintro e w6 ⟨rfl, k6⟩
  have HN6 : Hid _ := Nw.trans HN5.out k6
  have HB6 : Hid _ := HB0.out.nw HN6.out
  have HNW : Hid (Nw w w6) := Nw.trans HN0.out HN6.out
  clear k6 HN5 HN6
  obtain ⟨z0, z1, z2, zf⟩ := HB6.out
  cases hw : wordL NM
  · have HX : Hid (declP s = none) := by show declP s = none; rw [HDP.out, hw, Bool.false_and]; rfl
    obtain ⟨y0, y1, y2⟩ := set3d w6 w.heap.size (.string ⟨#[]⟩) (.string ⟨#[]⟩) (.bool false) z0 z1 z2
    clear hw
    go_wp2
    refine bodyPost_ret (v := .tuple #[.agg #[.string ⟨#[]⟩, .string ⟨#[]⟩, .bool false], .bool false]) (by simp [results, Tryz.results108, go_sem, y0, y1, y2]) rfl ⟨Or.inr ⟨HX.out, _, _, _, rfl⟩, ?_⟩
    exact ((HNW.out.setCell (Nat.le_refl _) _).setCell (Nat.le_refl _) _).setCell (Nat.le_refl _) _
  · cases hf : fit60 VL
    · have HX : Hid (declP s = none) := by show declP s = none; rw [HDP.out, hf, Bool.and_false]; rfl
      obtain ⟨y0, y1, y2⟩ := set3d w6 w.heap.size (.string ⟨#[]⟩) (.string ⟨#[]⟩) (.bool false) z0 z1 z2
      have HG : Hid (Calls Tryz.prog 104 #[.string (bA VL)] w6 fun e w' => e = .returned (.bool false) ∧ w' = w6) := by
        have := igvs w6 (bA VL) (by rw [bA_size]; omega)
        rw [bA_list, hf] at this
        exact this
      clear hw hf
      go_wp2_with (go_at_call 104; refine HG.out.mono ?_; rintro e w' ⟨rfl, hq⟩; have hq2 := hq.symm; clear hq; subst hq2)
      refine bodyPost_ret (v := .tuple #[.agg #[.string ⟨#[]⟩, .string ⟨#[]⟩, .bool false], .bool false]) (by simp [results, Tryz.results108, go_sem, y0, y1, y2]) rfl ⟨Or.inr ⟨HX.out, _, _, _, rfl⟩, ?_⟩
      exact ((HNW.out.setCell (Nat.le_refl _) _).setCell (Nat.le_refl _) _).setCell (Nat.le_refl _) _
    · have HX : Hid (declP s = some ⟨bA (lowL NM), bA VL, im⟩) := by show declP s = _; rw [HDP.out, hw, hf]; rfl
      have HG : Hid (Calls Tryz.prog 104 #[.string (bA VL)] w6 fun e w' => e = .returned (.bool true) ∧ w' = w6) := by
        have := igvs w6 (bA VL) (by rw [bA_size]; omega)
        rw [bA_list, hf] at this
        exact this
      have HL : Hid (Calls Tryz.prog 101 #[.string (bA NM)] w6 fun e w' => e = .returned (.string (bA (lowL NM))) ∧ Nw w6 w') := by
        refine (Tryz.strings_ToLower_ascii (bA NM) w6 (by rw [bA_size]; omega) (by rw [bA_list]; exact word_ascii hw)).mono ?_
        rw [bA_list, low_lower]
        exact fun e w' h => h
      clear hw hf
      go_wp2_with (go_at_call 104; refine HG.out.mono ?_; rintro e w' ⟨rfl, hq⟩; have hq2 := hq.symm; clear hq; subst hq2)
      refine Calls.mono HL.out ?_
      rintro e w7 ⟨rfl, k7⟩
      have HN7 : Hid (Nw w w7) := Nw.trans HNW.out k7
      obtain ⟨x0, x1, x2, xf⟩ := HB6.out.nw k7
      obtain ⟨y0, y1, y2⟩ := set3d w7 w.heap.size (.string (bA (lowL NM))) (.string (bA VL)) (.bool im) x0 x1 x2
      clear k7 z0 z1 z2 zf
      go_wp2
      refine bodyPost_ret (v := .tuple #[.agg #[.string (bA (lowL NM)), .string (bA VL), .bool im], .bool true]) (by simp [results, Tryz.results108, go_sem, y0, y1, y2]) rfl ⟨Or.inl ⟨_, HX.out, rfl⟩, ?_⟩
      exact ((HN7.out.setCell (Nat.le_refl _) _).setCell (Nat.le_refl _) _).setCell (Nat.le_refl _) _
end Go.Proofs.YtnkmdmmlpidcmaaGreatDoor
namespace Go.Proofs.YtnkmdmmlpidcmaaGreatDoor
open Go.ChangeShapes Go.WideShapes Go.ChangeAt Go.RowKit
set_option linter.unusedVariables false

def EDecl : Els DD := fun _ cs d _ => cs = [.string d.nm, .string d.vl, .bool d.im]
theorem EDecl.kept : KeptE EDecl := fun w w' cs x F G h _ _ => h
theorem Tryz.info36 : (Tryz.prog.info? 36).map (fun i => (i.zero, i.size, i.bytes)) = some (some (.agg #[.string ⟨#[]⟩, .string ⟨#[]⟩, .bool false]), 3, 40) := by kernel_rfl
def declAt (l : List DD) (i : Nat) : DD := l.getD i noDD
/-- The declarations l lie at a. -/
def Decls (w : World) (a : Option Addr) (l : List DD) : Prop :=
  l = [] ∨ ∃ b, a = some ⟨b, 0, none⟩ ∧ b < w.heap.size ∧ ∀ i, i < l.length → w.cell? ⟨b, i * 3, none⟩ = some (.string (declAt l i).nm) ∧ w.cell? ⟨b, i * 3 + 1, none⟩ = some (.string (declAt l i).vl) ∧ w.cell? ⟨b, i * 3 + 2, none⟩ = some (.bool (declAt l i).im)
theorem Decls.nw {w w' : World} {a : Option Addr} {l : List DD} (h : Decls w a l) (k : Nw w w') : Decls w' a l := by
  rcases h with h | ⟨b, rfl, hb, hc⟩
  · exact Or.inl h
  · refine Or.inr ⟨b, rfl, Nat.lt_of_lt_of_le hb (Below.size k), fun i hi => ?_⟩
    obtain ⟨h0, h1, h2⟩ := hc i hi
    exact ⟨((bcell k).1 _ _ hb).trans h0, ((bcell k).1 _ _ hb).trans h1, ((bcell k).1 _ _ hb).trans h2⟩
theorem RowM.decls {w : World} {v : Value} {l : List DD} {F : Nat → Prop} (h : RowM 3 EDecl w v l F) : ∃ a c, v = .slice a l.length c ∧ l.length ≤ c ∧ Decls w a l := by
  rcases h with ⟨h1, h2⟩ | ⟨g, c, els, h1, h2, h3, h4⟩
  · exact ⟨none, 0, by rw [h2]; exact h1, by rw [h2]; exact Nat.le_refl _, Or.inl h2⟩
  · refine ⟨_, c, h1, h2, Or.inr ⟨g, rfl, h4.lt, fun i hi => ?_⟩⟩
    obtain ⟨e, he, hx⟩ := el_at h3 i hi noDD
    have hc := (h4.el e (List.mem_of_getElem? he)).1
    have c0 := h4.cell i e he 0 (.string e.x.nm) (by rw [hc]; rfl)
    have c1 := h4.cell i e he 1 (.string e.x.vl) (by rw [hc]; rfl)
    have c2 := h4.cell i e he 2 (.bool e.x.im) (by rw [hc]; rfl)
    have hp : declAt l i = e.x := hx.symm
    rw [hp]
    exact ⟨c0, c1, c2⟩
theorem eqDecl_any (w : World) (n : DD) : Calls Tryz.prog 116 #[.agg #[.string n.nm, .string n.vl, .bool n.im], .agg #[.string n.nm, .string n.vl, .bool n.im]] w fun e w' => e = .returned (.bool true) ∧ Nw w w' := by
  obtain ⟨nm, vl, im⟩ := n
  simp only
  go_enter Tryz.func116, Tryz.ntmps116
  go_wp2
  go_ret
  exact ⟨rfl, ((Below.refl _ _).alloc (Nat.le_refl _) _).alloc (by simp) _⟩
set_option maxHeartbeats 4000000 in
theorem eqDeclS_any (w : World) (a1 a2 : Option Addr) (c1 c2 : Nat) (l : List DD) (hl : l.length ≤ 1048576) (h1 : Decls w a1 l) (h2 : Decls w a2 l) :
    Calls Tryz.prog 84 #[.slice a1 l.length c1, .slice a2 l.length c2] w fun e w' => e = .returned (.bool true) ∧ Nw w w' := by
  have H1 : Hid (Decls w a1 l) := h1
  have H2 : Hid (Decls w a2 l) := h2
  clear h1 h2
  go_enter Tryz.func84, Tryz.ntmps84
  go_wp2
  go_loopw [5] (fun i wr => ∃ k : Nat, k ≤ l.length ∧ i = .int .i64 k ∧ Nw w wr) (fun i _ => l.length - (intOf i).toNat)
  case atStart => exact ⟨0, Nat.zero_le _, rfl, Below.refl _ _⟩
  case round =>
    obtain ⟨k, hk, rfl, hw⟩ := hrel
    by_cases hlt : k < l.length
    · rcases (H1.out.nw hw) with h | ⟨b1, rfl, hb1, hc1⟩
      · rw [h] at hlt; simp at hlt
      rcases (H2.out.nw hw) with h | ⟨b2, rfl, hb2, hc2⟩
      · rw [h] at hlt; simp at hlt
      obtain ⟨q0, q1, q2⟩ := hc1 k hlt
      obtain ⟨r0, r1, r2⟩ := hc2 k hlt
      clear hc1 hc2 H1 H2
      have HW : Hid (Nw w wr) := hw
      clear hw
      generalize declAt l k = d at *
      go_wp2
      go_region_with (go_at_call 116; refine Calls.mono (eqDecl_any _ d) ?_; rintro e w' ⟨rfl, k1⟩)
      all_goals
        go_wp2
        go_roundw
        case rel => exact ⟨k + 1, by omega, by go_num, HW.out.trans k1.drw⟩
        case measure => simp [intOf]; omega
    · have HW : Hid (Nw w wr) := hw
      clear hw
      go_wp2
      go_ret
      exact ⟨rfl, HW.out⟩
end Go.Proofs.YtnkmdmmlpidcmaaGreatDoor
namespace Go.Proofs.YtnkmdmmlpidcmaaGreatDoor
open Go.ChangeShapes Go.WideShapes Go.ChangeAt Go.RowKit
set_option linter.unusedVariables false

def mkD (K : Nat) : DD := ⟨markT K, markT (K + 1), decide ((K + 2) % 3 = 0)⟩
def mkDs (K n : Nat) : List DD := (List.range n).map fun i => mkD (K + 3 * i)
theorem mkDs_len (K n : Nat) : (mkDs K n).length = n := by simp [mkDs]
theorem mkDs_at (K n j : Nat) (h : j < n) : (mkDs K n)[j]? = some (mkD (K + 3 * j)) := by simp [mkDs, h]
theorem setd_far {w : World} {g i j : Nat} {u : Value} (h : i ≠ j) : (w.setCell ⟨g, i, none⟩ u).cell? ⟨g, j, none⟩ = w.cell? ⟨g, j, none⟩ := World.cell?_setCell_other _ _ _ _ (fun e => by injection e; omega)
theorem mod3 (X : Nat) : ((((X : Nat) : Int) + 1 + 1) % 3 == 0) = decide ((X + 2) % 3 = 0) := by
  rw [Bool.eq_iff_iff, beq_iff_eq, decide_eq_true_eq]
  omega
set_option maxHeartbeats 4000000 in
theorem markDl_any (w : World) (v : Value) (K : Nat) (l : List DD) (F : Nat → Prop) (hK : 1 ≤ K) (hK2 : K + 3 * l.length ≤ 1000000) (h : RowM 3 EDecl w v l F) :
    Calls Tryz.prog 45 #[v, .int .i64 (K : Int)] w fun e w' => e = .returned (.int .i64 ((K + 3 * l.length : Nat) : Int)) ∧ Wr F w w' ∧ RowM 3 EDecl w' v (mkDs K l.length) F := by
  rcases h with ⟨rfl, rfl⟩ | ⟨g, c, els, rfl, hc, hx, hA⟩
  · go_enter Tryz.func45, Tryz.ntmps45
    go_wp2
    go_loopw [1, 5] (fun x i wr => x = .int .i64 (K : Int) ∧ i = .int .i64 0 ∧ wr = w) (fun _ _ _ => 0)
    case atStart => exact ⟨rfl, rfl, rfl⟩
    case round =>
      obtain ⟨rfl, rfl, rfl⟩ := hrel
      go_wp2
      go_ret
      exact ⟨rfl, Wr.refl _ _, Or.inl ⟨rfl, rfl⟩⟩
  · have HA : Hid (RowA 3 EDecl w g els F) := hA
    have HX : Hid (els.map El.x = l) := hx
    clear hA hx
    have HC : Hid (l.length ≤ c) := hc
    go_enter Tryz.func45, Tryz.ntmps45
    go_wp2
    go_loopw [1, 5] (fun x i wr => ∃ (j : Nat) (es : List (El DD)), j ≤ l.length ∧ i = .int .i64 j ∧ x = .int .i64 ((K + 3 * j : Nat) : Int) ∧ Wr F w wr ∧ es.map El.x = (mkDs K l.length).take j ++ l.drop j ∧ RowA 3 EDecl wr g es F) (fun _ i _ => l.length - (intOf i).toNat)
    case atStart => exact ⟨0, els, Nat.zero_le _, rfl, rfl, Wr.refl _ _, HX.out, HA.out⟩
    case round =>
      obtain ⟨j, es, hj, rfl, rfl, hw, he, hA⟩ := hrel
      have HW : Hid (Wr F w wr) := hw
      have HE : Hid (es.map El.x = (mkDs K l.length).take j ++ l.drop j) := he
      by_cases hlt : j < l.length
      · obtain ⟨e, hje, hex⟩ := el_at he j (by rw [List.length_append, List.length_take, List.length_drop, mkDs_len]; omega) noDD
        obtain ⟨hcs, hlen, hFe⟩ := hA.el e (List.mem_of_getElem? hje)
        have c0 := hA.cell j e hje 0 (.string e.x.nm) (by rw [hcs]; rfl)
        have c1 := hA.cell j e hje 1 (.string e.x.vl) (by rw [hcs]; rfl)
        have c2 := hA.cell j e hje 2 (.bool e.x.im) (by rw [hcs]; rfl)
        have HMK : Hid ((mkDs K l.length)[j]? = some (mkD (K + 3 * j))) := mkDs_at K l.length j hlt
        have hg := hA.lt
        have hfz := hA.fz
        rw [Nat.add_zero] at c0
        have HRA : Hid (RowA 3 EDecl wr g es F) := hA
        have HJE : Hid (es[j]? = some e) := hje
        have HFE : Hid (∀ b, e.F b → F b ∧ b ≠ g) := hFe
        have HIF : Hid (F g) := hA.inF
        have HSM : Hid _ := fun x hx => set_marked (mkDs K l.length) l j x (mkDs_len K l.length) hlt hx
        have HX3 : Hid (K + 3 * (j + 1) = K + 3 * j + 3) := by show _ = _; omega
        have hXb : K + 3 * j + 3 ≤ 1000000 := by omega
        have hX1 : 1 ≤ K + 3 * j := by omega
        clear hA hje hFe hex hcs hlen he hw
        generalize K + 3 * j = X at *
        have hm3 := mod3 X
        generalize e.x.nm = en at *
        generalize e.x.vl = ev at *
        generalize e.x.im = ei at *
        go_wp2_with fail
        refine Calls.mono (markText_any _ X (by omega) (by omega)) ?_
        rintro e1 w1 ⟨rfl, k1⟩
        have hg1 : g < w1.heap.size := Nat.lt_of_lt_of_le hg (Below.size k1)
        have d0 := ((bcell k1).1 _ (j * 3) hg).trans c0
        have d1 := ((bcell k1).1 _ (j * 3 + 1) hg).trans c1
        have d2 := ((bcell k1).1 _ (j * 3 + 2) hg).trans c2
        have df : ∀ o, w1.frozen? ⟨g, o, none⟩ = false := fun o => ((bcell k1).2 _ o hg).trans (hfz o)
        have HK1 : Hid (Nw wr w1) := k1
        clear k1 c0 c1 c2
        go_wp2_with fail
        refine Calls.mono (markText_any _ (X + 1) (by omega) (by omega)) ?_
        rintro e2 w2 ⟨rfl, k2⟩
        have hgS : g < (w1.setCell ⟨g, j * 3, none⟩ (.string (markT X))).heap.size := by simpa [World.setCell] using hg1
        have hg2 : g < w2.heap.size := Nat.lt_of_lt_of_le hgS (Below.size k2)
        have f0 := ((bcell k2).1 _ (j * 3) hgS).trans (World.cell?_setCell_same w1 ⟨g, j * 3, none⟩ _ d0)
        have f1 := ((bcell k2).1 _ (j * 3 + 1) hgS).trans ((setd_far (by omega)).trans d1)
        have f2 := ((bcell k2).1 _ (j * 3 + 2) hgS).trans ((setd_far (by omega)).trans d2)
        have ff : ∀ o, w2.frozen? ⟨g, o, none⟩ = false := fun o => ((bcell k2).2 _ o hgS).trans (by rw [World.frozen?_setCell]; exact df o)
        have HK2 : Hid (Nw (w1.setCell ⟨g, j * 3, none⟩ (.string (markT X))) w2) := k2
        clear k2 d0 d1 d2 df
        have HWR : Hid (Wr (fun b => b = g ∨ e.F b) wr ((w2.setCell ⟨g, j * 3 + 1, none⟩ (.string (markT (X + 1)))).setCell ⟨g, j * 3 + 2, none⟩ (.bool (decide ((X + 2) % 3 = 0))))) := by
          have b1 : Wr (fun b => b = g ∨ e.F b) wr w1 := Wr.nw HK1.out
          have b2 := b1.set (Or.inl rfl) (j * 3) (.string (markT X))
          have b3 := b2.trans (Wr.nw HK2.out)
          have b4 := b3.set (Or.inl rfl) (j * 3 + 1) (.string (markT (X + 1)))
          exact b4.set (Or.inl rfl) (j * 3 + 2) _
        have HNX : Hid (RowA 3 EDecl ((w2.setCell ⟨g, j * 3 + 1, none⟩ (.string (markT (X + 1)))).setCell ⟨g, j * 3 + 2, none⟩ (.bool (decide ((X + 2) % 3 = 0)))) g (es.set j ⟨mkD X, [.string (markT X), .string (markT (X + 1)), .bool (decide ((X + 2) % 3 = 0))], e.F⟩) F) := by
          refine HRA.out.step EDecl.kept j e _ _ HJE.out rfl HWR.out (fun o => ?_) (fun i y hi => ?_) (fun i m him hm => ?_) rfl
          · rw [World.frozen?_setCell, World.frozen?_setCell]
            exact ff o
          · rcases (show i = 0 ∨ i = 1 ∨ i = 2 ∨ 3 ≤ i by omega) with rfl | rfl | rfl | h
            · simp at hi; subst hi; rw [setd_far (by omega), setd_far (by omega), Nat.add_zero]; exact f0
            · simp at hi; subst hi; rw [setd_far (by omega)]; exact World.cell?_setCell_same w2 ⟨g, j * 3 + 1, none⟩ _ f1
            · simp at hi; subst hi; exact World.cell?_setCell_same _ ⟨g, j * 3 + 2, none⟩ _ ((setd_far (by omega)).trans f2)
            · rw [List.getElem?_eq_none (by simpa using h)] at hi; cases hi
          · rw [setd_far (by omega), setd_far (by omega), (bcell HK2.out).1 _ _ hgS, setd_far (by omega), (bcell HK1.out).1 _ _ hg]
        have HW3 : Hid (Wr F w _) := HW.out.trans (HWR.out.mono (fun b hb => by
          rcases hb with rfl | hb
          · exact HIF.out
          · exact (HFE.out b hb).1))
        generalize decide ((X + 2) % 3 = 0) = bm at *
        go_wp2
        go_roundw
        case rel =>
          refine ⟨j + 1, _, by omega, by go_num, by rw [HX3.out]; go_num, HW3.out, ?_, HNX.out⟩
          rw [List.map_set, HE.out, HSM.out _ HMK.out]
        case measure => simp [intOf]; omega
      · have e : j = l.length := by omega
        subst e
        have HRA : Hid (RowA 3 EDecl wr g es F) := hA
        have HE2 : Hid (es.map El.x = mkDs K l.length) := by
          show _ = _
          rw [he, List.drop_length, List.append_nil, List.take_of_length_le (by rw [mkDs_len]; exact Nat.le_refl _)]
        have HLN : Hid ((mkDs K l.length).length = l.length) := mkDs_len K l.length
        clear hA he hw
        go_wp2
        go_ret
        refine ⟨rfl, HW.out, Or.inr ⟨g, c, es, ?_, ?_, HE2.out, HRA.out⟩⟩
        · rw [HLN.out]
        · rw [HLN.out]; exact HC.out
set_option maxRecDepth 100000 in
set_option maxHeartbeats 8000000 in
theorem heldDl_any (w : World) (v : Value) (K n : Nat) (F : Nat → Prop) (hK : 1 ≤ K) (hK2 : K + 3 * n ≤ 1000000) (h : RowM 3 EDecl w v (mkDs K n) F) :
    Calls Tryz.prog 47 #[v, .int .i64 (K : Int)] w fun e w' => e = .returned (.int .i64 ((K + 3 * n : Nat) : Int)) ∧ Nw w w' := by
  obtain ⟨va, vc, hv, _⟩ := h.slice
  rw [mkDs_len] at hv
  subst hv
  have HR : Hid (RowM 3 EDecl w (.slice va n vc) (mkDs K n) F) := h
  clear h
  go_enter Tryz.func47, Tryz.ntmps47
  go_wp2
  go_loopw [1, 5] (fun x i wr => ∃ (j : Nat), j ≤ n ∧ i = .int .i64 j ∧ x = .int .i64 ((K + 3 * j : Nat) : Int) ∧ Nw w wr) (fun _ i _ => n - (intOf i).toNat)
  case atStart => exact ⟨0, Nat.zero_le _, rfl, rfl, Below.refl _ _⟩
  case round =>
    obtain ⟨j, hj, rfl, rfl, hw⟩ := hrel
    have HW : Hid (Nw w wr) := hw
    by_cases hlt : j < n
    · obtain ⟨a, c, hs, _, hd⟩ := (HR.out.nw EDecl.kept hw).decls
      injection hs with hs1 hs2 hs3
      subst hs1
      clear hs2 hs3
      rcases hd with h2 | ⟨g, rfl, hg, hc⟩
      · have := mkDs_len K n; rw [h2] at this; simp at this; omega
      obtain ⟨c0, c1, c2⟩ := hc j (by rw [mkDs_len]; exact hlt)
      have hda : declAt (mkDs K n) j = mkD (K + 3 * j) := by unfold declAt; rw [List.getD_eq_getElem?_getD, mkDs_at K n j hlt]; rfl
      rw [hda] at c0 c1 c2
      have c0' : wr.cell? ⟨g, j * 3, none⟩ = some (.string (markT (K + 3 * j))) := c0
      have c1' : wr.cell? ⟨g, j * 3 + 1, none⟩ = some (.string (markT (K + 3 * j + 1))) := c1
      have c2' : wr.cell? ⟨g, j * 3 + 2, none⟩ = some (.bool (decide ((K + 3 * j + 2) % 3 = 0))) := c2
      have HX3 : Hid (K + 3 * (j + 1) = K + 3 * j + 3) := by show _ = _; omega
      have hXb : K + 3 * j + 3 ≤ 1000000 := by omega
      have hX1 : 1 ≤ K + 3 * j := by omega
      clear hc hw hda c0 c1 c2
      generalize K + 3 * j = X at *
      have HM3 : Hid _ := mod3 X
      generalize decide ((X + 2) % 3 = 0) = bm at *
      have hgd : g < wr.drew.heap.size := hg
      have C0 : wr.drew.cell? ⟨g, j * 3, none⟩ = some (.string (markT X)) := c0'
      go_wp2
      go_region_with (go_at_call 55; refine Calls.mono (markText_any _ X (by omega) (by omega)) ?_; rintro e1 w1 ⟨rfl, k1⟩; have d0 := ((bcell k1).1 _ (j * 3) hgd).trans C0)
      all_goals
        have HK1 : Hid (Nw wr w1) := k1.drw
        have hg1 : g < w1.heap.size := Nat.lt_of_lt_of_le hg (Below.size HK1.out)
        have d1 := ((bcell HK1.out).1 _ (j * 3 + 1) hg).trans c1'
        have d2 := ((bcell HK1.out).1 _ (j * 3 + 2) hg).trans c2'
        have hgd1 : g < w1.drew.heap.size := hg1
        have D1 : w1.drew.cell? ⟨g, j * 3 + 1, none⟩ = some (.string (markT (X + 1))) := d1
        clear C0 c0' c1' c2'
        go_wp2
        go_region_with (go_at_call 55; refine Calls.mono (markText_any _ (X + 1) (by omega) (by omega)) ?_; rintro e2 w2 ⟨rfl, k2⟩; have f1 := ((bcell k2).1 _ (j * 3 + 1) hgd1).trans D1)
        all_goals
          have HK2 : Hid (Nw wr w2) := Nw.trans HK1.out k2.drw
          have hg2 : g < w2.heap.size := Nat.lt_of_lt_of_le hg (Below.size HK2.out)
          have f2 := ((bcell (Nw.drw k2)).1 _ (j * 3 + 2) hg1).trans d2
          have HN2 : Hid (Nw w w2) := Nw.trans HW.out HK2.out
          clear D1 d1 d2
          have hm3 := HM3.out
          go_wp2
          go_roundw
          case rel => exact ⟨j + 1, by omega, by go_num, by rw [HX3.out]; go_num, HN2.out⟩
          case measure => simp [intOf]; omega
    · have e : j = n := by omega
      subst e
      clear hw
      go_wp2
      go_ret
      exact ⟨rfl, HW.out⟩
end Go.Proofs.YtnkmdmmlpidcmaaGreatDoor
