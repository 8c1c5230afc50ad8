/-
  Marks looked for in rows of parts; each theorem names its conditions.
  A part of a selector read from its text, on lists of bytes: as the specification reads it; each theorem names its conditions.
  Words of sheets: the looks at a byte and at a text, the program's and the specification's; each theorem names its conditions.
  Parts that are good: the program's looks and the specification's; each theorem names its conditions.
-/
import Derived.Test.YtnkmdmmlpidcmaaDoorJAE
import Derived.ProofKit
import Derived.Test.YtnkmdmmlpidcmaaDoorJAD
import Derived.Test.YtnkmdmmlpidcmaaDoorJAB
import Derived.Laws.RangeAny
namespace Go.Proofs.YtnkmdmmlpidcmaaDoor
open Go.ChangeShapes Go.WideShapes Go.ChangeAt Go.RowKit
set_option linter.unusedVariables false

set_option maxHeartbeats 8000000 in
theorem heldPt_any (w : World) (v : Value) (K : Nat) (l : List PD) (F : Nat → Prop) (hK : 1 ≤ K) (hK2 : K + cntPs l ≤ 1000000) (h : RowM 3 EPart w v (mkPs K l) F) :
    Calls Tryd.prog 16 #[v, .int .i64 (K : Int)] w fun e w' => e = .returned (.int .i64 ((K + cntPs l : Nat) : Int)) ∧ Nw w w' := by
  have hl := cntPs_len l
  obtain ⟨va, vc, hv, _⟩ := h.slice
  rw [mkPs_len] at hv
  subst hv
  have HR : Hid (RowM 3 EPart w (.slice va l.length vc) (mkPs K l) F) := h
  clear h
  go_enter Tryd.func16, Tryd.ntmps16
  go_wp2
  go_loopw [1, 5] (fun x i wr => ∃ (j : Nat), j ≤ l.length ∧ i = .int .i64 j ∧ x = .int .i64 ((K + cntPs (l.take j) : Nat) : Int) ∧ Nw w wr) (fun _ i _ => l.length - (intOf i).toNat)
  case atStart => exact ⟨0, Nat.zero_le _, rfl, rfl, Below.refl _ _⟩
  case round =>
    obtain ⟨j, hj, rfl, rfl, hw⟩ := hrel
    have HW : Hid (Nw w wr) := hw
    by_cases hlt : j < l.length
    · rcases HR.out.nw EPart.kept hw with ⟨_, h2⟩ | ⟨g, c, els, h1, h2, h3, h4⟩
      · have := mkPs_len l K; rw [h2] at this; simp at this; omega
      injection h1 with h1a h1b h1c
      subst h1a
      obtain ⟨e, hje, hex⟩ := el_at h3 j (by rw [mkPs_len]; exact hlt) noPD
      have hex2 : e.x = mkP (K + cntPs (l.take j)) (partAt l j) := by
        rw [hex, List.getD_eq_getElem?_getD, mkPs_at l K j hlt]; rfl
      obtain ⟨⟨u, hcs, hu⟩, hlen, hFe⟩ := h4.el e (List.mem_of_getElem? hje)
      have c0 := h4.cell j e hje 0 (.string e.x.ty) (by rw [hcs]; rfl)
      have c1 := h4.cell j e hje 1 (.string e.x.id) (by rw [hcs]; rfl)
      have c2 := h4.cell j e hje 2 u (by rw [hcs]; rfl)
      have hst := cntPs_step l j hlt
      have hle := cntPs_le l (j + 1)
      have hg := h4.lt
      rw [hex2] at hu c0 c1
      rw [Nat.add_zero] at c0
      have hu2 : RowM 1 EStr wr u (markL (K + cntPs (l.take j) + 2) (partAt l j).cls.length) e.F := hu
      have c0' : wr.cell? ⟨g, j * 3, none⟩ = some (.string (markT (K + cntPs (l.take j)))) := c0
      have c1' : wr.cell? ⟨g, j * 3 + 1, none⟩ = some (.string (markT (K + cntPs (l.take j) + 1))) := c1
      obtain ⟨ua, uc, hue, _⟩ := hu2.slice
      rw [markL_len] at hue
      subst hue
      have HU : Hid (RowM 1 EStr wr (.slice ua (partAt l j).cls.length uc) (markL (K + cntPs (l.take j) + 2) (partAt l j).cls.length) e.F) := hu2
      have hcn : cntP (partAt l j) = 2 + (partAt l j).cls.length := rfl
      rw [hcn] at hst
      rw [hst] at hle
      have HST : Hid (cntPs (l.take (j + 1)) = cntPs (l.take j) + (2 + (partAt l j).cls.length)) := hst
      clear hst hcn hu hu2 hje hFe hex hex2 hcs hlen hw c0 c1 h1b h1c h2 h3 h4
      generalize (partAt l j).cls.length = n at *
      generalize cntPs (l.take j) = C at *
      have hgd : g < wr.drew.heap.size := hg
      have C0 : wr.drew.cell? ⟨g, j * 3, none⟩ = some (.string (markT (K + C))) := c0'
      go_wp2
      go_region_with (go_at_call 30; refine Calls.mono (markText_any _ (K + C) (by omega) (by omega)) ?_; rintro e1 w1 ⟨rfl, k1⟩; have d0 := ((bcell k1).1 _ (j * 3) hgd).trans C0)
      all_goals
        have HK1 : Hid (Nw wr w1) := k1.drw
        have hg1 : g < w1.heap.size := Nat.lt_of_lt_of_le hg (Below.size HK1.out)
        have d1 := ((bcell HK1.out).1 _ (j * 3 + 1) hg).trans c1'
        have d2 := ((bcell HK1.out).1 _ (j * 3 + 2) hg).trans c2
        have hgd1 : g < w1.drew.heap.size := hg1
        have D1 : w1.drew.cell? ⟨g, j * 3 + 1, none⟩ = some (.string (markT (K + C + 1))) := d1
        clear C0 c0' c1' c2
        go_wp2
        go_region_with (go_at_call 30; refine Calls.mono (markText_any _ (K + C + 1) (by omega) (by omega)) ?_; rintro e2 w2 ⟨rfl, k2⟩; have f1 := ((bcell k2).1 _ (j * 3 + 1) hgd1).trans D1)
        all_goals
          have HK2 : Hid (Nw wr w2) := Nw.trans HK1.out k2.drw
          have hg2 : g < w2.heap.size := Nat.lt_of_lt_of_le hg (Below.size HK2.out)
          have f2 := ((bcell (Nw.drw k2)).1 _ (j * 3 + 2) hg1).trans d2
          have HU2 : Hid _ := HU.out.nw EStr.kept HK2.out
          clear D1 d1 d2
          go_wp2_with fail
          refine Calls.mono (heldSt_any _ (.slice ua n uc) (K + C + 2) n e.F (by omega) (by omega) (by omega) HU2.out) ?_
          rintro e3 w3 ⟨rfl, k3⟩
          have HN3 : Hid (Nw w w3) := Nw.trans HW.out (Nw.trans HK2.out k3)
          go_wp2
          go_roundw
          case rel => exact ⟨j + 1, by omega, by go_num, by rw [HST.out]; go_num, HN3.out⟩
          case measure => simp [intOf]; omega
    · have e : j = l.length := by omega
      subst e
      rw [List.take_length] at *
      clear hw
      go_wp2
      go_ret
      exact ⟨rfl, HW.out⟩
end Go.Proofs.YtnkmdmmlpidcmaaDoor
namespace Go.Proofs.YtnkmdmmlpidcmaaDoor
set_option linter.unusedVariables false

def wbL (b : UInt8) : Bool := decide ((97 ≤ b.toNat ∧ b.toNat ≤ 122) ∨ (65 ≤ b.toNat ∧ b.toNat ≤ 90) ∨ b.toNat = 95 ∨ b.toNat = 45 ∨ (48 ≤ b.toNat ∧ b.toNat ≤ 57))
def dgL (b : UInt8) : Bool := decide (48 ≤ b.toNat ∧ b.toNat ≤ 57)
def leadD (l : List UInt8) : Bool := match l with | [] => false | b :: _ => dgL b
/-- A word, as a list of bytes. -/
def wordL (l : List UInt8) : Bool := decide (1 ≤ l.length ∧ l.length ≤ 30) && (!leadD l && l.all wbL)
/-- What does not go on with a word. -/
def stopL (l : List UInt8) : Prop := ∀ b r, l = b :: r → wbL b = false
def runL (l : List UInt8) : Nat := if (l.takeWhile wbL).length = 0 ∨ leadD l = true ∨ 30 < (l.takeWhile wbL).length then 0 else (l.takeWhile wbL).length
theorem take_all {l r : List UInt8} (h : l.all wbL = true) (hr : stopL r) : (l ++ r).takeWhile wbL = l := by
  induction l with
  | nil =>
    cases r with
    | nil => rfl
    | cons b r => show (b :: r).takeWhile wbL = []; rw [List.takeWhile_cons, hr b r rfl]; rfl
  | cons b l ih =>
    rw [List.all_cons, Bool.and_eq_true] at h
    rw [List.cons_append, List.takeWhile_cons, if_pos h.1, ih h.2]
theorem runL_word {l r : List UInt8} (h : wordL l = true) (hr : stopL r) : runL (l ++ r) = l.length := by
  unfold wordL at h
  simp only [Bool.and_eq_true, decide_eq_true_eq, Bool.not_eq_true'] at h
  obtain ⟨⟨h1, h2⟩, h3, h4⟩ := h
  unfold runL
  rw [take_all h4 hr]
  have e : leadD (l ++ r) = false := by
    cases l with
    | nil => simp at h1
    | cons b l => exact h3
  rw [if_neg]
  rintro (h | h | h)
  · omega
  · rw [e] at h; cases h
  · omega
theorem run_pos {l : List UInt8} (h : runL l ≠ 0) : wordL (l.take (runL l)) = true ∧ stopL (l.drop (runL l)) ∧ runL l ≤ l.length := by
  unfold runL at h ⊢
  split at h
  · exact absurd rfl h
  · rename_i hc
    rw [if_neg hc]
    have h1 : (l.takeWhile wbL).length ≠ 0 := fun e => hc (Or.inl e)
    have h2 : leadD l ≠ true := fun e => hc (Or.inr (Or.inl e))
    have h3 : (l.takeWhile wbL).length ≤ 30 := by
      rcases Nat.lt_or_ge 30 (l.takeWhile wbL).length with c | c
      · exact absurd (Or.inr (Or.inr c)) hc
      · exact c
    have e1 : l.take (l.takeWhile wbL).length = l.takeWhile wbL := by
      conv => lhs; arg 2; rw [← List.takeWhile_append_dropWhile (p := wbL) (l := l)]
      rw [List.take_left']
      rfl
    have e2 : l.drop (l.takeWhile wbL).length = l.dropWhile wbL := by
      conv => lhs; arg 2; rw [← List.takeWhile_append_dropWhile (p := wbL) (l := l)]
      rw [List.drop_left']
      rfl
    have hle : (l.takeWhile wbL).length ≤ l.length := (List.takeWhile_sublist wbL).length_le
    refine ⟨?_, ?_, hle⟩
    · rw [e1]
      unfold wordL
      simp only [Bool.and_eq_true, decide_eq_true_eq, Bool.not_eq_true']
      refine ⟨⟨by omega, h3⟩, ?_, ?_⟩
      · cases l with
        | nil => rfl
        | cons b l =>
          rw [List.takeWhile_cons]
          split
          · show dgL b = false
            have h9 : ¬ dgL b = true := h2
            simpa using h9
          · rfl
      · rw [List.all_eq_true]
        intro b hb
        have := List.all_takeWhile (l := l) (p := wbL)
        exact List.all_eq_true.1 this b hb
    · rw [e2]
      intro b r hbr
      have := List.head?_dropWhile_not wbL l
      rw [hbr] at this
      simpa using this
structure PL where
  ty : List UInt8
  id : List UInt8
  cls : List (List UInt8)
def idL (id : List UInt8) : List UInt8 := if id = [] then [] else 35 :: id
def clsL (cs : List (List UInt8)) : List UInt8 := cs.flatMap fun c => 46 :: c
/-- The text of a part. -/
def txtL (p : PL) : List UInt8 := p.ty ++ (idL p.id ++ clsL p.cls)
structure GoodL (p : PL) : Prop where
  few : p.cls.length ≤ 4
  cls : ∀ c, c ∈ p.cls → wordL c = true
  ty : p.ty = [] ∨ p.ty = [42] ∨ wordL p.ty = true
  id : p.id = [] ∨ wordL p.id = true
  some' : p.ty ≠ [] ∨ p.id ≠ [] ∨ p.cls ≠ []
theorem stop_nil : stopL [] := fun b r h => by cases h
theorem stop_cls (cs : List (List UInt8)) : stopL (clsL cs) := by
  cases cs with
  | nil => exact stop_nil
  | cons c cs =>
    intro b r h
    have : b = 46 := by
      unfold clsL at h
      rw [List.flatMap_cons] at h
      injection h with h1 _
      exact h1.symm
    subst this
    decide
theorem stop_id (id : List UInt8) (cs : List (List UInt8)) : stopL (idL id ++ clsL cs) := by
  unfold idL
  split
  · exact stop_cls cs
  · intro b r h
    injection h with h1 _
    subst h1
    decide
theorem head_id {id : List UInt8} {cs : List (List UInt8)} {b : UInt8} {r : List UInt8} (h : idL id ++ clsL cs = b :: r) : b ≠ 42 := by
  unfold idL at h
  split at h
  · rw [List.nil_append] at h
    cases cs with
    | nil => cases h
    | cons c cs =>
      unfold clsL at h
      rw [List.flatMap_cons] at h
      injection h with h1 _
      rw [← h1]; decide
  · injection h with h1 _
    rw [← h1]; decide
/-- Classes as the specification reads them. -/
def clsS : Nat → List UInt8 → List (List UInt8) → Option (List (List UInt8))
  | 0, _, _ => none
  | f + 1, l, acc => match l with
    | [] => some acc
    | b :: t => if b = 46 then (if runL t = 0 ∨ acc.length = 4 then none else clsS f (t.drop (runL t)) (acc ++ [t.take (runL t)])) else none
theorem clsS_full : ∀ (cs : List (List UInt8)) (f : Nat) (acc : List (List UInt8)), (∀ c, c ∈ cs → wordL c = true) → (clsL cs).length < f → acc.length + cs.length ≤ 4 → clsS f (clsL cs) acc = some (acc ++ cs) := by
  intro cs
  induction cs with
  | nil =>
    intro f acc _ hf _
    cases f with
    | zero => simp at hf
    | succ f => show some acc = some (acc ++ []); rw [List.append_nil]
  | cons c cs ih =>
    intro f acc hw hf ha
    cases f with
    | zero => simp at hf
    | succ f =>
      have hc := hw c (by simp)
      have hr := runL_word hc (stop_cls cs)
      have hne : c.length ≠ 0 := by
        unfold wordL at hc
        simp only [Bool.and_eq_true, decide_eq_true_eq] at hc
        omega
      have e : clsL (c :: cs) = 46 :: (c ++ clsL cs) := by unfold clsL; rw [List.flatMap_cons]; rfl
      rw [e] at hf ⊢
      simp only [List.length_cons, List.length_append] at hf ha
      show (if (46 : UInt8) = 46 then (if runL (c ++ clsL cs) = 0 ∨ acc.length = 4 then none else clsS f ((c ++ clsL cs).drop (runL (c ++ clsL cs))) (acc ++ [(c ++ clsL cs).take (runL (c ++ clsL cs))])) else none) = _
      rw [if_pos rfl, hr, if_neg (by omega), List.drop_left, List.take_left, ih f (acc ++ [c]) (fun x hx => hw x (by simp [hx])) (by omega) (by simp; omega), List.append_assoc]
      rfl
theorem clsS_sound : ∀ (f : Nat) (l : List UInt8) (acc out : List (List UInt8)), clsS f l acc = some out → ∃ cs, out = acc ++ cs ∧ l = clsL cs ∧ (∀ c, c ∈ cs → wordL c = true) ∧ (acc.length ≤ 4 → out.length ≤ 4) := by
  intro f
  induction f with
  | zero => intro l acc out h; cases h
  | succ f ih =>
    intro l acc out h
    cases l with
    | nil =>
      injection h with h
      subst h
      exact ⟨[], (List.append_nil _).symm, rfl, (fun c hc => by cases hc), fun h => h⟩
    | cons b t =>
      replace h : (if b = 46 then (if runL t = 0 ∨ acc.length = 4 then none else clsS f (t.drop (runL t)) (acc ++ [t.take (runL t)])) else none) = some out := h
      split at h
      · rename_i hb
        subst hb
        split at h
        · cases h
        · rename_i hc
          have h0 : runL t ≠ 0 := fun e => hc (Or.inl e)
          have h4 : acc.length ≠ 4 := fun e => hc (Or.inr e)
          obtain ⟨hw, _, _⟩ := run_pos h0
          obtain ⟨cs, e1, e2, e3, e4⟩ := ih _ _ _ h
          refine ⟨t.take (runL t) :: cs, ?_, ?_, ?_, fun ha => e4 (by simp; omega)⟩
          · rw [e1, List.append_assoc]; rfl
          · show 46 :: t = clsL (t.take (runL t) :: cs)
            unfold clsL
            rw [List.flatMap_cons]
            show 46 :: t = 46 :: (t.take (runL t) ++ clsL cs)
            rw [← e2, List.take_append_drop]
          · intro c hc2
            rcases List.mem_cons.1 hc2 with e | hc2
            · rw [e]; exact hw
            · exact e3 c hc2
      · cases h
/-- The part's type ahead of a text. -/
def tyS (l : List UInt8) : List UInt8 × List UInt8 := match l with
  | [] => ([], [])
  | b :: t => if b = 42 then ([42], t) else ((b :: t).take (runL (b :: t)), (b :: t).drop (runL (b :: t)))
/-- The id ahead of what is left; none where a `#` has no word. -/
def idS (l : List UInt8) : Option (List UInt8 × List UInt8) := match l with
  | [] => some ([], [])
  | b :: t => if b = 35 then (if runL t = 0 then none else some (t.take (runL t), t.drop (runL t))) else some ([], b :: t)
/-- A part as the specification reads it. -/
def prs (l : List UInt8) : Option PL := if l = [] then none else
  match idS (tyS l).2 with
  | none => none
  | some (id, r) => match clsS (r.length + 1) r [] with
    | none => none
    | some cs => some ⟨(tyS l).1, id, cs⟩
theorem wordL_ne {l : List UInt8} (h : wordL l = true) : l ≠ [] := by
  rintro rfl
  revert h
  decide
theorem wordL_head {b : UInt8} {l : List UInt8} (h : wordL (b :: l) = true) : wbL b = true := by
  unfold wordL at h
  simp only [Bool.and_eq_true, List.all_cons] at h
  exact h.2.2.1
theorem prs_full {p : PL} (h : GoodL p) : prs (txtL p) = some p := by
  obtain ⟨ty, id, cls⟩ := p
  obtain ⟨h1, h2, h3, h4, h5⟩ := h
  simp only at h1 h2 h3 h4 h5
  have hne : txtL ⟨ty, id, cls⟩ ≠ [] := by
    unfold txtL idL clsL
    simp only
    rcases h5 with h | h | h
    · intro e; exact h (List.append_eq_nil_iff.1 e).1
    · rw [if_neg h]; intro e; have := (List.append_eq_nil_iff.1 e).2; cases this
    · cases cls with
      | nil => exact absurd rfl h
      | cons c cs =>
        intro e
        have := (List.append_eq_nil_iff.1 (List.append_eq_nil_iff.1 e).2).2
        rw [List.flatMap_cons] at this
        cases this
  have hrest := stop_id id cls
  have hty : tyS (txtL ⟨ty, id, cls⟩) = (ty, idL id ++ clsL cls) := by
    unfold txtL
    simp only
    have h42R : ∀ b r, idL id ++ clsL cls = b :: r → b ≠ 42 := fun b r e => head_id e
    generalize idL id ++ clsL cls = R at *
    rcases h3 with rfl | rfl | hw
    · rw [List.nil_append]
      cases R with
      | nil => rfl
      | cons b r =>
        have hb := hrest b r rfl
        have hr0 : runL (b :: r) = 0 := by
          unfold runL
          rw [List.takeWhile_cons, hb]
          rfl
        have h42 : b ≠ 42 := h42R b r rfl
        show (if b = 42 then ([42], r) else ((b :: r).take (runL (b :: r)), (b :: r).drop (runL (b :: r)))) = _
        rw [if_neg h42, hr0]
        rfl
    · rfl
    · have hr := runL_word hw hrest
      cases ty with
      | nil => exact absurd rfl (wordL_ne hw)
      | cons b t =>
        have hb := wordL_head hw
        have h42 : b ≠ 42 := by rintro rfl; revert hb; decide
        unfold tyS
        simp only [List.cons_append]
        rw [if_neg h42]
        have e : b :: (t ++ R) = (b :: t) ++ R := rfl
        rw [e, hr, List.take_left, List.drop_left]
  have hid : idS (idL id ++ clsL cls) = some (id, clsL cls) := by
    unfold idL
    split
    · rename_i e
      subst e
      rw [List.nil_append]
      cases cls with
      | nil => rfl
      | cons c cs => rfl
    · rename_i e
      rcases h4 with h | h
      · exact absurd h e
      · have hr := runL_word h (stop_cls cls)
        show (if (35 : UInt8) = 35 then (if runL (id ++ clsL cls) = 0 then none else some ((id ++ clsL cls).take (runL (id ++ clsL cls)), (id ++ clsL cls).drop (runL (id ++ clsL cls)))) else some ([], 35 :: (id ++ clsL cls))) = _
        rw [if_pos rfl, hr, if_neg (fun e2 => e (List.eq_nil_of_length_eq_zero e2)), List.take_left, List.drop_left]
  unfold prs
  rw [if_neg hne, hty]
  simp only
  rw [hid]
  simp only
  rw [clsS_full cls _ [] h2 (Nat.lt_succ_self _) (by simpa using h1)]
  rfl
theorem prs_sound {l : List UInt8} {p : PL} (h : prs l = some p) : GoodL p ∧ txtL p = l := by
  unfold prs at h
  split at h
  · cases h
  · rename_i hne
    cases hi : idS (tyS l).2 with
    | none => rw [hi] at h; cases h
    | some x =>
      obtain ⟨id, r⟩ := x
      rw [hi] at h
      simp only at h
      cases hc : clsS (r.length + 1) r [] with
      | none => rw [hc] at h; cases h
      | some cs =>
        rw [hc] at h
        simp only at h
        injection h with h
        subst h
        obtain ⟨cs', e1, e2, e3, e4⟩ := clsS_sound _ _ _ _ hc
        rw [List.nil_append] at e1
        subst e1
        have hty : ((tyS l).1 = [] ∨ (tyS l).1 = [42] ∨ wordL (tyS l).1 = true) ∧ (tyS l).1 ++ (tyS l).2 = l := by
          cases l with
          | nil => exact absurd rfl hne
          | cons b t =>
            by_cases hb : b = 42
            · subst hb
              exact ⟨Or.inr (Or.inl rfl), rfl⟩
            · have e : tyS (b :: t) = ((b :: t).take (runL (b :: t)), (b :: t).drop (runL (b :: t))) := by
                show (if b = 42 then ([42], t) else _) = _
                rw [if_neg hb]
              rw [e]
              refine ⟨?_, List.take_append_drop _ _⟩
              by_cases h0 : runL (b :: t) = 0
              · rw [h0]; exact Or.inl rfl
              · exact Or.inr (Or.inr (run_pos h0).1)
        have hid : (id = [] ∨ wordL id = true) ∧ idL id ++ r = (tyS l).2 := by
          generalize (tyS l).2 = R at *
          cases R with
          | nil =>
            injection hi with hi
            injection hi with i1 i2
            subst i1 i2
            exact ⟨Or.inl rfl, rfl⟩
          | cons b t =>
            by_cases hb : b = 35
            · subst hb
              replace hi : (if (35 : UInt8) = 35 then (if runL t = 0 then none else some (t.take (runL t), t.drop (runL t))) else some ([], 35 :: t)) = some (id, r) := hi
              rw [if_pos rfl] at hi
              split at hi
              · cases hi
              · rename_i h0
                injection hi with hi
                injection hi with i1 i2
                have hw := (run_pos h0).1
                rw [i1] at hw
                refine ⟨Or.inr hw, ?_⟩
                unfold idL
                rw [if_neg (wordL_ne hw), ← i1, ← i2]
                show 35 :: (t.take (runL t) ++ t.drop (runL t)) = 35 :: t
                rw [List.take_append_drop]
            · replace hi : (if b = 35 then (if runL t = 0 then none else some (t.take (runL t), t.drop (runL t))) else some ([], b :: t)) = some (id, r) := hi
              rw [if_neg hb] at hi
              injection hi with hi
              injection hi with i1 i2
              subst i1 i2
              exact ⟨Or.inl rfl, rfl⟩
        have htx : txtL ⟨(tyS l).1, id, cs⟩ = l := by
          unfold txtL
          simp only
          rw [← e2, hid.2, hty.2]
        refine ⟨⟨e4 (by simp), e3, hty.1, hid.1, ?_⟩, htx⟩
        simp only
        by_cases c1 : (tyS l).1 = []
        · by_cases c2 : id = []
          · refine Or.inr (Or.inr fun c3 => hne ?_)
            rw [← htx, c1, c2, c3]
            rfl
          · exact Or.inr (Or.inl c2)
        · exact Or.inl c1
/-- What the specification reads is what has that text. -/
theorem prs_iff (l : List UInt8) (p : PL) : prs l = some p ↔ GoodL p ∧ txtL p = l := by
  constructor
  · exact prs_sound
  · rintro ⟨h, rfl⟩
    exact prs_full h
/-- A text parted at its points. -/
def dots : List UInt8 → List UInt8 × List (List UInt8)
  | [] => ([], [])
  | b :: l => if b = 46 then ([], (dots l).1 :: (dots l).2) else (b :: (dots l).1, (dots l).2)
theorem dots_join : ∀ l, (dots l).1 ++ clsL (dots l).2 = l := by
  intro l
  induction l with
  | nil => rfl
  | cons b l ih =>
    rw [dots]
    split
    · rename_i h
      subst h
      show clsL ((dots l).1 :: (dots l).2) = _
      unfold clsL
      rw [List.flatMap_cons]
      show 46 :: ((dots l).1 ++ clsL (dots l).2) = _
      rw [ih]
    · show b :: ((dots l).1 ++ clsL (dots l).2) = _
      rw [ih]
theorem dots_text : ∀ (cs : List (List UInt8)), (∀ c, c ∈ cs → (46 : UInt8) ∉ c) → ∀ a : List UInt8, (46 : UInt8) ∉ a → dots (a ++ clsL cs) = (a, cs) := by
  intro cs
  induction cs with
  | nil =>
    intro _ a
    induction a with
    | nil => intro _; rfl
    | cons b a iha =>
      intro h
      have h1 := iha (fun x => h (List.mem_cons_of_mem _ x))
      show dots (b :: (a ++ clsL [])) = _
      rw [dots, if_neg (fun e => h (by rw [e]; exact List.mem_cons_self)), h1]
  | cons c cs ih =>
    intro hc a
    induction a with
    | nil =>
      intro _
      have h1 := ih (fun x hx => hc x (List.mem_cons_of_mem _ hx)) c (hc c List.mem_cons_self)
      have e : clsL (c :: cs) = 46 :: (c ++ clsL cs) := by unfold clsL; rw [List.flatMap_cons]; rfl
      rw [List.nil_append, e, dots, if_pos rfl, h1]
    | cons b a iha =>
      intro h
      have h1 := iha (fun x => h (List.mem_cons_of_mem _ x))
      show dots (b :: (a ++ clsL (c :: cs))) = _
      rw [dots, if_neg (fun e => h (by rw [e]; exact List.mem_cons_self)), h1]
/-- A text cut at its first `#`. -/
def cutH : List UInt8 → List UInt8 × List UInt8 × Bool
  | [] => ([], [], false)
  | b :: l => if b = 35 then ([], l, true) else (b :: (cutH l).1, (cutH l).2.1, (cutH l).2.2)
theorem cutH_join : ∀ l, ((cutH l).2.2 = true → l = (cutH l).1 ++ 35 :: (cutH l).2.1) ∧ ((cutH l).2.2 = false → l = (cutH l).1 ∧ (cutH l).2.1 = []) := by
  intro l
  induction l with
  | nil => exact ⟨(fun h => by cases h), fun _ => ⟨rfl, rfl⟩⟩
  | cons b l ih =>
    rw [cutH]
    split
    · rename_i h
      subst h
      exact ⟨fun _ => rfl, (fun h => by cases h)⟩
    · refine ⟨fun h => ?_, fun h => ?_⟩
      · have := ih.1 h
        show b :: l = b :: ((cutH l).1 ++ 35 :: (cutH l).2.1)
        rw [← this]
      · obtain ⟨h1, h2⟩ := ih.2 h
        exact ⟨congrArg (List.cons b) h1, h2⟩
theorem cutH_text : ∀ (a id : List UInt8), (35 : UInt8) ∉ a → cutH (a ++ idL id) = (a, id, decide (id ≠ [])) := by
  intro a id
  induction a with
  | nil =>
    intro _
    rw [List.nil_append]
    unfold idL
    split
    · rename_i h; subst h; rfl
    · rename_i h
      rw [cutH, if_pos rfl, decide_eq_true h]
  | cons b a ih =>
    intro h
    have h1 := ih (fun x => h (List.mem_cons_of_mem _ x))
    show cutH (b :: (a ++ idL id)) = _
    rw [cutH, if_neg (fun e => h (by rw [e]; exact List.mem_cons_self)), h1]
/-- A part as the program reads it. -/
def prI (l : List UInt8) : PL := ⟨(cutH (dots l).1).1, (cutH (dots l).1).2.1, (dots l).2⟩
def prIok (l : List UInt8) : Prop := GoodL (prI l) ∧ ¬ ((cutH (dots l).1).2.2 = true ∧ (cutH (dots l).1).2.1 = [])
theorem not_in_word {w : List UInt8} {b : UInt8} (h : wordL w = true) (hb : wbL b = false) : b ∉ w := by
  intro hm
  unfold wordL at h
  simp only [Bool.and_eq_true] at h
  have := List.all_eq_true.1 h.2.2 b hm
  rw [hb] at this
  cases this
theorem prI_sound {l : List UInt8} (h : prIok l) : txtL (prI l) = l := by
  obtain ⟨h1, h2⟩ := h
  have hj := dots_join l
  have hc := cutH_join (dots l).1
  unfold txtL prI
  simp only
  cases hb : (cutH (dots l).1).2.2 with
  | true =>
    have h3 : (cutH (dots l).1).2.1 ≠ [] := fun e => h2 ⟨hb, e⟩
    have h4 := hc.1 hb
    unfold idL
    rw [if_neg h3, ← List.append_assoc, ← h4, hj]
  | false =>
    obtain ⟨h4, h5⟩ := hc.2 hb
    rw [h5]
    unfold idL
    rw [if_pos rfl, List.nil_append, ← h4, hj]
theorem prI_full {p : PL} (h : GoodL p) : prI (txtL p) = p ∧ prIok (txtL p) := by
  obtain ⟨ty, id, cls⟩ := p
  have hw46 : wbL 46 = false := by decide
  have hw35 : wbL 35 = false := by decide
  have n46c : ∀ c, c ∈ cls → (46 : UInt8) ∉ c := fun c hc => not_in_word (h.cls c hc) hw46
  have n46t : (46 : UInt8) ∉ ty := by
    rcases h.ty with e | e | e
    · simp only at e; rw [e]; simp
    · simp only at e; rw [e]; decide
    · exact not_in_word e hw46
  have n35t : (35 : UInt8) ∉ ty := by
    rcases h.ty with e | e | e
    · simp only at e; rw [e]; simp
    · simp only at e; rw [e]; decide
    · exact not_in_word e hw35
  have n46i : (46 : UInt8) ∉ idL id := by
    unfold idL
    split
    · simp
    · rename_i e
      rcases h.id with e2 | e2
      · exact absurd e2 e
      · intro hm
        rcases List.mem_cons.1 hm with e3 | hm
        · revert e3; decide
        · exact not_in_word e2 hw46 hm
  have hd : dots (txtL ⟨ty, id, cls⟩) = (ty ++ idL id, cls) := by
    unfold txtL
    simp only
    rw [← List.append_assoc]
    exact dots_text cls n46c (ty ++ idL id) (fun hm => by
      rcases List.mem_append.1 hm with h | h
      · exact n46t h
      · exact n46i h)
  have hc := cutH_text ty id n35t
  have e : prI (txtL ⟨ty, id, cls⟩) = ⟨ty, id, cls⟩ := by
    unfold prI
    rw [hd]
    simp only
    rw [hc]
  refine ⟨e, by rw [e]; exact h, ?_⟩
  rw [hd]
  simp only
  rw [hc]
  simp only
  rintro ⟨h1, h2⟩
  rw [h2] at h1
  revert h1
  decide
/-- Both readers answer alike. -/
theorem prs_prI (l : List UInt8) : (prIok l → prs l = some (prI l)) ∧ (¬ prIok l → prs l = none) := by
  constructor
  · intro h
    exact (prs_iff l _).2 ⟨h.1, prI_sound h⟩
  · intro h
    cases e : prs l with
    | none => rfl
    | some p =>
      exfalso
      obtain ⟨h1, h2⟩ := (prs_iff l p).1 e
      have h3 := (prI_full h1).2
      rw [h2] at h3
      exact h h3
end Go.Proofs.YtnkmdmmlpidcmaaDoor
namespace Go.Proofs.YtnkmdmmlpidcmaaDoor
open Go.ChangeShapes Go.WideShapes Go.ChangeAt Go.RowKit
set_option linter.unusedVariables false

def startB (c : Int) : Bool := decide ((97 ≤ c ∧ c ≤ 122) ∨ (65 ≤ c ∧ c ≤ 90) ∨ c = 95 ∨ c = 45)
def wB (c : Int) : Bool := decide ((97 ≤ c ∧ c ≤ 122) ∨ (65 ≤ c ∧ c ≤ 90) ∨ c = 95 ∨ c = 45 ∨ (48 ≤ c ∧ c ≤ 57))
theorem sstart (w : World) (c : Int) (h0 : 0 ≤ c) (h1 : c ≤ 255) : Calls Tryd.prog 146 #[.int .u8 c] w fun e w' => e = .returned (.bool (startB c)) ∧ w' = w := by
  by_cases hf : firstB c = true
  · go_enter Tryd.func146, Tryd.ntmps146
    go_wp2_with (go_at_call 164; refine (sletter _ c h0 h1).mono ?_; rw [hf]; rintro e w' ⟨rfl, rfl⟩)
    go_ret
    exact ⟨ret_bool (by simp [firstB] at hf; rw [Bool.eq_iff_iff]; simp [startB]; omega), rfl⟩
  · have hf' : firstB c = false := by simpa using hf
    clear hf
    go_enter Tryd.func146, Tryd.ntmps146
    go_wp2_with (go_at_call 164; refine (sletter _ c h0 h1).mono ?_; rw [hf']; rintro e w' ⟨rfl, rfl⟩)
    all_goals
      go_ret
      exact ⟨ret_bool (by simp [firstB] at hf'; rw [Bool.eq_iff_iff]; simp [startB]; omega), rfl⟩
theorem swin (w : World) (c : Int) (h0 : 0 ≤ c) (h1 : c ≤ 255) : Calls Tryd.prog 118 #[.int .u8 c] w fun e w' => e = .returned (.bool (wB c)) ∧ w' = w := by
  by_cases hf : startB c = true
  · go_enter Tryd.func118, Tryd.ntmps118
    go_wp2_with (go_at_call 146; refine (sstart _ c h0 h1).mono ?_; rw [hf]; rintro e w' ⟨rfl, rfl⟩)
    go_ret
    exact ⟨ret_bool (by simp [startB] at hf; rw [Bool.eq_iff_iff]; simp [wB]; omega), rfl⟩
  · have hf' : startB c = false := by simpa using hf
    clear hf
    go_enter Tryd.func118, Tryd.ntmps118
    go_wp2_with (first | (go_at_call 146; refine (sstart _ c h0 h1).mono ?_; rw [hf']; rintro e w' ⟨rfl, rfl⟩) | (go_at_call 83; refine (sdigit _ c h0 h1).mono ?_; rintro e w' ⟨rfl, rfl⟩))
    all_goals
      go_ret
      exact ⟨ret_bool (by simp [startB] at hf'; rw [Bool.eq_iff_iff]; simp [wB, digB]; omega), rfl⟩
/-- A rune that may stand in a word. -/
theorem iwin (w : World) (c : Int) (h0 : 0 ≤ c) (h1 : c ≤ 2147483647) : Calls Tryd.prog 123 #[.int .i32 c] w fun e w' => e = .returned (.bool (wB c)) ∧ w' = w := by
  by_cases c1 : c < 128
  · have hm : c % 256 = c := by omega
    have hw : IntKind.wrap .u8 c = c := by simp [IntKind.wrap, IntKind.signed, IntKind.bits]; omega
    by_cases hf : letB c = true
    · go_enter Tryd.func123, Tryd.ntmps123
      go_wp2_with (first | (go_at_call 149; (try rw [hw]); refine (iletter _ c h0 (by omega)).mono ?_; rw [hf]; rintro e w' ⟨rfl, rfl⟩) | (go_at_call 122; (try rw [hw]); refine (idigit _ c h0 (by omega)).mono ?_; rintro e w' ⟨rfl, rfl⟩))
      all_goals
        go_ret
        exact ⟨ret_bool (by simp [letB] at hf; rw [Bool.eq_iff_iff]; simp [wB]; omega), rfl⟩
    · have hf' : letB c = false := by simpa using hf
      clear hf
      go_enter Tryd.func123, Tryd.ntmps123
      go_wp2_with (first | (go_at_call 149; (try rw [hw]); refine (iletter _ c h0 (by omega)).mono ?_; rw [hf']; rintro e w' ⟨rfl, rfl⟩) | (go_at_call 122; (try rw [hw]); refine (idigit _ c h0 (by omega)).mono ?_; rintro e w' ⟨rfl, rfl⟩))
      all_goals
        go_ret
        exact ⟨ret_bool (by simp [letB] at hf'; rw [Bool.eq_iff_iff]; simp [wB, digB]; omega), rfl⟩
  · go_enter Tryd.func123, Tryd.ntmps123
    go_wp2
    all_goals
      go_ret
      exact ⟨ret_bool (by rw [Bool.eq_iff_iff]; simp [wB]; omega), rfl⟩

def WordOk (s : ByteArray) : Prop := (1 ≤ s.size ∧ s.size ≤ 30) ∧ digB (bt s 0) = false ∧ ∀ i, i < s.size → wB (bt s i) = true
def wordB (s : ByteArray) : Bool := decide (1 ≤ s.size ∧ s.size ≤ 30) && (!digB (bt s 0) && (List.range s.size).all fun i => wB (bt s i))
theorem wordB_iff (s : ByteArray) : wordB s = true ↔ WordOk s := by
  unfold wordB WordOk
  rw [Bool.and_eq_true, Bool.and_eq_true, decide_eq_true_eq, List.all_eq_true]
  simp only [List.mem_range, Bool.not_eq_true']
theorem wordB_yes {s : ByteArray} (h : WordOk s) : wordB s = true := (wordB_iff s).2 h
theorem wordB_no {s : ByteArray} (h : ¬ WordOk s) : wordB s = false := by
  cases e : wordB s with
  | false => rfl
  | true => exact absurd ((wordB_iff s).1 e) h

/-- So many bytes at the front may stand in a word. -/
def IsLead (s : ByteArray) (n : Nat) : Prop := n ≤ s.size ∧ (∀ i, i < n → wB (bt s i) = true) ∧ (n < s.size → wB (bt s n) = false)
def runOf (s : ByteArray) (n : Nat) : Nat := if n = 0 ∨ digB (bt s 0) = true ∨ 30 < n then 0 else n
theorem runOf_yes {s : ByteArray} {n : Nat} (h0 : ¬ n = 0) (hd : digB (bt s 0) = false) (h : n ≤ 30) : runOf s n = n := by
  unfold runOf; rw [if_neg (by rw [hd]; simp; omega)]
theorem runOf_long {s : ByteArray} {n : Nat} (h : 30 < n) : runOf s n = 0 := by
  unfold runOf; rw [if_pos (Or.inr (Or.inr h))]
def RunSays (s : ByteArray) (e : Ending) : Prop := ∃ n, IsLead s n ∧ e = .returned (.int .i64 (runOf s n))
theorem RunSays.mk {s : ByteArray} {n : Nat} {x : Int} (h : IsLead s n) (e : x = (runOf s n : Nat)) : RunSays s (.returned (.int .i64 x)) := ⟨n, h, by rw [e]⟩
set_option maxHeartbeats 2000000 in
theorem srun (w : World) (s : ByteArray) (hs : s.size ≤ 1048576) : Calls Tryd.prog 91 #[.string s] w fun e w' => RunSays s e ∧ w' = w := by
  go_enter Tryd.func91, Tryd.ntmps91
  go_wp2
  go_loop [3] (fun i => ∃ k : Nat, k ≤ s.size ∧ i = .int .i64 k ∧ ∀ j, j < k → wB (bt s j) = true) (fun i => s.size - (intOf i).toNat)
  case atStart => exact ⟨0, Nat.zero_le _, rfl, fun j hj => absurd hj (by omega)⟩
  case round =>
    obtain ⟨k, hk, rfl, hin⟩ := hrel
    have HI : Hid (∀ j, j < k → wB (bt s j) = true) := hin
    clear hin
    have done : (k < s.size → wB (bt s k) = false) → IsLead s k := fun h => ⟨hk, HI.out, h⟩
    by_cases hlt : k < s.size
    · have hbk := bt_of s k hlt
      have hbdk := bt_bd s k
      rw [hbk] at hbdk
      by_cases hi : wB (bt s k) = true
      · have hi' : wB (s[k].toNat : Int) = true := by rw [← hbk]; exact hi
        have HJ : Hid (wB (bt s k) = true) := hi
        clear hbk hi done
        go_wp2_with (go_at_call 118; refine (swin _ _ hbdk.1 hbdk.2).mono ?_; rw [hi']; rintro e w' ⟨rfl, rfl⟩)
        go_round
        case rel =>
          refine ⟨k + 1, by omega, by go_num, fun j hj => ?_⟩
          by_cases e : j = k
          · rw [e]; exact HJ.out
          · exact HI.out j (by omega)
        case measure => simp [intOf]; omega
      · have hi' : wB (s[k].toNat : Int) = false := by rw [← hbk]; simpa using hi
        have HD : Hid (IsLead s k) := done fun _ => by simpa using hi
        clear hbk hi done
        have h0 : 0 < s.size := by omega
        have hb0 := bt_of s 0 h0
        have hbd0 := bt_bd s 0
        rw [hb0] at hbd0
        have HB : Hid (bt s 0 = (s[0].toNat : Int)) := hb0
        clear hb0
        by_cases k0 : k = 0
        · subst k0
          go_wp2_with (go_at_call 118; refine (swin _ _ hbdk.1 hbdk.2).mono ?_; rw [hi']; rintro e w' ⟨rfl, rfl⟩)
          go_ret
          exact ⟨RunSays.mk HD.out (by simp [runOf]), rfl⟩
        · by_cases hd : digB (s[0].toNat : Int) = true
          · go_wp2_with (first | (go_at_call 118; refine (swin _ _ hbdk.1 hbdk.2).mono ?_; rw [hi']; rintro e w' ⟨rfl, rfl⟩) | (go_at_call 83; refine (sdigit _ _ hbd0.1 hbd0.2).mono ?_; rw [hd]; rintro e w' ⟨rfl, rfl⟩))
            go_ret
            exact ⟨RunSays.mk HD.out (by simp [runOf, HB.out, hd]), rfl⟩
          · have hd' : digB (s[0].toNat : Int) = false := by simpa using hd
            have hkb : ((k : Int) == 0) = false := by simp; omega
            go_wp2_with (first | (go_at_call 118; refine (swin _ _ hbdk.1 hbdk.2).mono ?_; rw [hi']; rintro e w' ⟨rfl, rfl⟩) | (go_at_call 83; refine (sdigit _ _ hbd0.1 hbd0.2).mono ?_; rw [hd']; rintro e w' ⟨rfl, rfl⟩))
            all_goals
              go_ret
              exact ⟨RunSays.mk HD.out (by first | (rw [runOf_yes k0 (by rw [HB.out]; exact hd') (by omega)]; done) | (rw [runOf_long (by omega)]; rfl)), rfl⟩
    · have HD : Hid (IsLead s k) := done fun h => absurd h hlt
      clear done
      by_cases k0 : k = 0
      · subst k0
        obtain rfl := empty_of (s := s) (by omega)
        go_wp2
        go_ret
        exact ⟨RunSays.mk HD.out (by simp [runOf]), rfl⟩
      · have h0 : 0 < s.size := by omega
        have hb0 := bt_of s 0 h0
        have hbd0 := bt_bd s 0
        rw [hb0] at hbd0
        have HB : Hid (bt s 0 = (s[0].toNat : Int)) := hb0
        clear hb0
        by_cases hd : digB (s[0].toNat : Int) = true
        · go_wp2_with (go_at_call 83; refine (sdigit _ _ hbd0.1 hbd0.2).mono ?_; rw [hd]; rintro e w' ⟨rfl, rfl⟩)
          go_ret
          exact ⟨RunSays.mk HD.out (by simp [runOf, HB.out, hd]), rfl⟩
        · have hd' : digB (s[0].toNat : Int) = false := by simpa using hd
          have hkb : ((k : Int) == 0) = false := by simp; omega
          go_wp2_with (go_at_call 83; refine (sdigit _ _ hbd0.1 hbd0.2).mono ?_; rw [hd']; rintro e w' ⟨rfl, rfl⟩)
          all_goals
            go_ret
            exact ⟨RunSays.mk HD.out (by first | (rw [runOf_yes k0 (by rw [HB.out]; exact hd') (by omega)]; done) | (rw [runOf_long (by omega)]; rfl)), rfl⟩
theorem run_word {s : ByteArray} {n : Nat} (h : IsLead s n) (hs : 0 < s.size) : (decide (runOf s n = s.size)) = wordB s := by
  obtain ⟨h1, h2, h3⟩ := h
  rw [Bool.eq_iff_iff, decide_eq_true_eq, wordB_iff]
  unfold runOf WordOk
  constructor
  · intro e
    split at e
    · omega
    · rename_i hn
      subst e
      refine ⟨by omega, ?_, h2⟩
      cases hd : digB (bt s 0) with
      | false => rfl
      | true => exact absurd (Or.inr (Or.inl hd)) hn
  · intro ⟨e1, e2, e3⟩
    have hn : n = s.size := by
      rcases Nat.lt_or_ge n s.size with c | c
      · have := e3 n c; rw [h3 c] at this; cases this
      · omega
    rw [if_neg (by rw [e2]; simp; omega)]
    exact hn
theorem sword (w : World) (s : ByteArray) (hs : s.size ≤ 1048576) : Calls Tryd.prog 71 #[.string s] w fun e w' => e = .returned (.bool (wordB s)) ∧ w' = w := by
  by_cases h0 : 0 < s.size
  · go_enter Tryd.func71, Tryd.ntmps71
    go_wp2_with (go_at_call 91; refine (srun _ s hs).mono ?_; rintro e w' ⟨⟨n, hl, rfl⟩, rfl⟩; have hq := run_word hl h0)
    go_ret
    refine ⟨ret_bool ?_, rfl⟩
    rw [← hq, Bool.eq_iff_iff]
    simp
    omega
  · have HX : Hid (wordB s = false) := wordB_no fun h => h0 (by have := h.1; omega)
    go_enter Tryd.func71, Tryd.ntmps71
    go_wp2
    go_ret
    exact ⟨ret_bool HX.out.symm, rfl⟩

set_option maxHeartbeats 2000000 in
theorem iword (w : World) (s : ByteArray) (hs : s.size ≤ 1048576) : Calls Tryd.prog 94 #[.string s] w fun e w' => e = .returned (.bool (wordB s)) ∧ Nw w w' := by
  by_cases h0 : 0 < s.size
  · have hn1 := ne_nil (s := s) h0
    have hn2 := ne_emp (s := s) h0
    by_cases h30 : s.size ≤ 30
    · have hb0 := bt_of s 0 h0
      have hbd0 := bt_bd s 0
      rw [hb0] at hbd0
      by_cases hd : digB (s[0].toNat : Int) = true
      · have HX : Hid (wordB s = false) := wordB_no fun h => by have := h.2.1; rw [hb0, hd] at this; cases this
        clear hb0
        go_enter Tryd.func94, Tryd.ntmps94
        go_wp2_with (go_at_call 122; refine (idigit _ _ hbd0.1 hbd0.2).mono ?_; rw [hd]; rintro e w' ⟨rfl, hq⟩; have hq2 := hq.symm; clear hq; subst hq2)
        go_ret
        exact ⟨ret_bool HX.out.symm, Below.refl _ _⟩
      · have hd' : digB (s[0].toNat : Int) = false := by simpa using hd
        have HD : Hid (digB (bt s 0) = false) := by rw [hb0]; exact hd'
        clear hb0 hd
        go_enter Tryd.func94, Tryd.ntmps94
        go_wp2_with (go_at_call 122; refine (idigit _ _ hbd0.1 hbd0.2).mono ?_; rw [hd']; rintro e w' ⟨rfl, hq⟩; have hq2 := hq.symm; clear hq; subst hq2)
        go_loopw [] (fun wr => ∃ pos : Nat, pos ≤ s.size ∧ (∀ j, j < pos → wB (bt s j) = true) ∧ wr = w.iter s pos) (fun wr => s.size - wr.iterPos w.heap.size)
        case atStart => exact ⟨0, Nat.zero_le _, fun j hj => absurd hj (by omega), rfl⟩
        case round =>
          obtain ⟨pos, hp, hin, rfl⟩ := hrel
          have HI : Hid (∀ j, j < pos → wB (bt s j) = true) := hin
          clear hin
          by_cases hlt : pos < s.size
          · have hbk := bt_of s pos hlt
            by_cases ha : (s[pos]'hlt).toNat < 128
            · have hnx : ∀ ty, (Instr.next (.pointer (some ⟨w.heap.size, 0, none⟩)) true ty).run Tryd.prog (w.iter s pos) = .ok (.tuple #[.bool true, .int .i64 pos, .int .i32 ((s[pos]'hlt).toNat : Int)]) (w.iter s (pos + 1)) := fun ty => by
                have := run_next_any (P := Tryd.prog) w s pos ty hlt
                rw [decode_ascii s pos hlt ha] at this
                exact this
              by_cases hi : wB ((s[pos]'hlt).toNat : Int) = true
              · have HJ : Hid (wB (bt s pos) = true) := by rw [hbk]; exact hi
                clear hbk
                generalize (s[pos]'hlt).toNat = x at *
                go_wp2_with (go_at_call 123; refine (iwin _ _ (by omega) (by omega)).mono ?_; rw [hi]; rintro e w' ⟨rfl, hq⟩; have hq2 := hq.symm; clear hq; subst hq2)
                go_roundw
                case rel =>
                  refine ⟨pos + 1, by omega, fun j hj => ?_, rfl⟩
                  by_cases e : j = pos
                  · rw [e]; exact HJ.out
                  · exact HI.out j (by omega)
                case measure => simp; omega
              · have hi' : wB ((s[pos]'hlt).toNat : Int) = false := by simpa using hi
                have HX : Hid (wordB s = false) := wordB_no fun h => by have := h.2.2 pos hlt; rw [hbk, hi'] at this; cases this
                clear hbk hi
                generalize (s[pos]'hlt).toNat = x at *
                go_wp2_with (go_at_call 123; refine (iwin _ _ (by omega) (by omega)).mono ?_; rw [hi']; rintro e w' ⟨rfl, hq⟩; have hq2 := hq.symm; clear hq; subst hq2)
                go_ret
                exact ⟨ret_bool HX.out.symm, (Below.refl _ _).alloc (Nat.le_refl _) _⟩
            · obtain ⟨hh, _⟩ := decode_high s pos hlt (by omega)
              have hle := decode_le s pos
              have hnx := fun ty => run_next_any (P := Tryd.prog) w s pos ty hlt
              have hi' : wB (bt s pos) = false := by rw [hbk]; simp [wB]; omega
              have HX : Hid (wordB s = false) := wordB_no fun h => by have := h.2.2 pos hlt; rw [hi'] at this; cases this
              have hi2 : wB ((Utf8.decode s pos).1 : Int) = false := by simp [wB]; omega
              clear hbk hi'
              generalize (Utf8.decode s pos).1 = x at *
              generalize pos + (Utf8.decode s pos).2 = y at *
              go_wp2_with (go_at_call 123; refine (iwin _ _ (by omega) (by omega)).mono ?_; rw [hi2]; rintro e w' ⟨rfl, hq⟩; have hq2 := hq.symm; clear hq; subst hq2)
              go_ret
              exact ⟨ret_bool HX.out.symm, (Below.refl _ _).alloc (Nat.le_refl _) _⟩
          · have hnx := fun ty => run_next_end (P := Tryd.prog) w s pos ty hlt
            have e : pos = s.size := by omega
            have HX : Hid (wordB s = true) := wordB_yes ⟨by omega, HD.out, fun i hi => HI.out i (by omega)⟩
            clear e
            go_wp2
            go_ret
            exact ⟨ret_bool HX.out.symm, (Below.refl _ _).alloc (Nat.le_refl _) _⟩
    · have HX : Hid (wordB s = false) := wordB_no fun h => h30 h.1.2
      go_enter Tryd.func94, Tryd.ntmps94
      go_wp2
      go_ret
      exact ⟨ret_bool HX.out.symm, Below.refl _ _⟩
  · have HX : Hid (wordB s = false) := wordB_no fun h => h0 (by have := h.1; omega)
    obtain rfl := empty_of (s := s) (by omega)
    go_enter Tryd.func94, Tryd.ntmps94
    go_wp2
    go_ret
    exact ⟨ret_bool HX.out.symm, Below.refl _ _⟩
end Go.Proofs.YtnkmdmmlpidcmaaDoor
namespace Go.Proofs.YtnkmdmmlpidcmaaDoor
open Go.ChangeShapes Go.WideShapes Go.ChangeAt Go.RowKit
set_option linter.unusedVariables false

def typeB (t : ByteArray) : Bool := t.toList.isEmpty || (t.toList == [42]) || wordB t
def idB (t : ByteArray) : Bool := t.toList.isEmpty || wordB t
def ClsTo (l : List ByteArray) (k : Nat) : Prop := ∀ i, i < k → wordB (strAt l i) = true
def clsB (l : List ByteArray) : Bool := (List.range l.length).all fun i => wordB (strAt l i)
theorem clsB_iff (l : List ByteArray) : clsB l = true ↔ ClsTo l l.length := by
  unfold clsB ClsTo
  rw [List.all_eq_true]
  simp only [List.mem_range]
theorem ClsTo.step {l : List ByteArray} {k : Nat} (h : ClsTo l k) (e : wordB (strAt l k) = true) : ClsTo l (k + 1) := by
  intro i hi
  by_cases c : i = k
  · subst c; exact e
  · exact h i (by omega)
theorem clsB_no {l : List ByteArray} {k : Nat} (hk : k < l.length) (e : wordB (strAt l k) = false) : clsB l = false := by
  cases h : clsB l with
  | false => rfl
  | true => have := (clsB_iff l).1 h k hk; rw [e] at this; cases this
def someB (p : PD) : Bool := !p.ty.toList.isEmpty || !p.id.toList.isEmpty || decide (0 < p.cls.length)
def partB (p : PD) : Bool := decide (p.cls.length ≤ 4) && (clsB p.cls && (typeB p.ty && (idB p.id && someB p)))
structure smallP (p : PD) : Prop where
  ty : p.ty.size ≤ 1048576
  id : p.id.size ≤ 1048576
  len : p.cls.length ≤ 1048576
  cls : ∀ i, i < p.cls.length → (strAt p.cls i).size ≤ 1048576
/-- The four ways of a type. -/
def TyWay (t : ByteArray) (b : Bool) : Prop := (t = ⟨#[]⟩ ∧ b = true) ∨ (t = ⟨#[42]⟩ ∧ b = true) ∨ ((¬ t.toList = []) ∧ t.toList.isEmpty = false ∧ (t.toList == [42]) = false ∧ wordB t = b)
theorem tyWay (t : ByteArray) : TyWay t (typeB t) := by
  by_cases h0 : t.size = 0
  · obtain rfl := empty_of h0
    exact Or.inl ⟨rfl, by simp [typeB, ByteArray.toList_eq]⟩
  · have n1 := ne_nil (s := t) (by omega)
    have n2 := ne_emp (s := t) (by omega)
    by_cases h1 : t = ⟨#[42]⟩
    · subst h1
      exact Or.inr (Or.inl ⟨rfl, by simp [typeB, ByteArray.toList_eq]⟩)
    · have n3 : (t.toList == [42]) = false := by
        have e : ([42] : List UInt8) = (⟨#[42]⟩ : ByteArray).toList := by rw [ByteArray.toList_eq]
        rw [e]
        exact (Lib.bytes_beq_false_iff _ _).2 h1
      refine Or.inr (Or.inr ⟨n1, n2, n3, ?_⟩)
      unfold typeB
      rw [n2, n3]; simp
def IdWay (t : ByteArray) (b : Bool) : Prop := (t = ⟨#[]⟩ ∧ b = true) ∨ ((¬ t.toList = []) ∧ t.toList.isEmpty = false ∧ wordB t = b)
theorem idWay (t : ByteArray) : IdWay t (idB t) := by
  by_cases h0 : t.size = 0
  · obtain rfl := empty_of h0
    exact Or.inl ⟨rfl, by simp [idB, ByteArray.toList_eq]⟩
  · have n1 := ne_nil (s := t) (by omega)
    have n2 := ne_emp (s := t) (by omega)
    refine Or.inr ⟨n1, n2, ?_⟩
    unfold idB
    rw [n2]; simp

set_option maxHeartbeats 8000000 in
theorem igoodPart (w : World) (ty id : ByteArray) (cls : List ByteArray) (a : Option Addr) (c : Nat) (hz : smallP ⟨ty, id, cls⟩) (hr : Strs w a cls) :
    Calls Tryd.prog 64 #[.agg #[.string ty, .string id, .slice a cls.length c]] w fun e w' => e = .returned (.bool (partB ⟨ty, id, cls⟩)) ∧ Nw w w' := by
  obtain ⟨z1, z2, z3, z4⟩ := hz
  simp only at z1 z2 z3 z4
  have HR : Hid (Strs w a cls) := hr
  have HZ : Hid (∀ i, i < cls.length → (strAt cls i).size ≤ 1048576) := z4
  clear hr z4
  by_cases h4 : cls.length ≤ 4
  · go_enter Tryd.func64, Tryd.ntmps64
    go_wp2
    go_loopw [15] (fun i wr => ∃ k : Nat, k ≤ cls.length ∧ i = .int .i64 k ∧ ClsTo cls k ∧ Nw w wr ∧ w.heap.size < wr.heap.size ∧ wr.cell? ⟨w.heap.size, 0, none⟩ = some (.string ty) ∧ wr.cell? ⟨w.heap.size, 1, none⟩ = some (.string id) ∧ wr.cell? ⟨w.heap.size, 2, none⟩ = some (.slice a cls.length c)) (fun i _ => cls.length - (intOf i).toNat)
    case atStart => exact ⟨0, Nat.zero_le _, rfl, fun i hi => absurd hi (by omega), (Below.refl _ _).alloc (Nat.le_refl _) _, by simp, by simp, by simp, by simp⟩
    case round =>
      obtain ⟨k, hk, rfl, hto, hw, hbx, c0, c1, c2⟩ := hrel
      have HO : Hid (ClsTo cls k) := hto
      have HW : Hid (Nw w wr) := hw
      clear hto
      by_cases hlt : k < cls.length
      · rcases (HR.out.nw hw) with h | ⟨b, o, rfl, hb, hc⟩
        · rw [h] at hlt; simp at hlt
        have q0 := hc k hlt
        have y1 := HZ.out k hlt
        clear hc hw
        by_cases hwd : wordB (strAt cls k) = true
        · have HK : Hid (wordB (strAt cls k) = true) := hwd
          have C0 : Hid (wr.cell? ⟨w.heap.size, 0, none⟩ = some (.string ty) ∧ wr.cell? ⟨w.heap.size, 1, none⟩ = some (.string id) ∧ wr.cell? ⟨w.heap.size, 2, none⟩ = some (.slice (some ⟨b, o, none⟩) cls.length c)) := ⟨c0, c1, c2⟩
          clear c0 c1 c2
          go_wp2_with (go_at_call 94; refine (iword _ _ y1).mono ?_; rw [hwd]; rintro e w' ⟨rfl, k1⟩)
          go_roundw
          case rel =>
            obtain ⟨hc, _⟩ := bcell k1
            exact ⟨k + 1, by omega, by go_num, HO.out.step HK.out, HW.out.trans k1, Nat.lt_of_lt_of_le hbx (Below.size k1), (hc _ _ hbx).trans C0.out.1, (hc _ _ hbx).trans C0.out.2.1, (hc _ _ hbx).trans C0.out.2.2⟩
          case measure => simp [intOf]; omega
        · have hwd' : wordB (strAt cls k) = false := by simpa using hwd
          have HX : Hid (partB ⟨ty, id, cls⟩ = false) := by show partB _ = false; unfold partB; rw [clsB_no hlt hwd']; simp
          clear c0 c1 c2
          go_wp2_with (go_at_call 94; refine (iword _ _ y1).mono ?_; rw [hwd']; rintro e w' ⟨rfl, k1⟩)
          go_ret
          exact ⟨ret_bool HX.out.symm, HW.out.trans k1⟩
      · have hcl : clsB cls = true := (clsB_iff cls).2 fun i hi => HO.out i (by omega)
        have HP : Hid (partB ⟨ty, id, cls⟩ = (typeB ty && (idB id && someB ⟨ty, id, cls⟩))) := by
          show partB _ = _
          unfold partB; simp only; rw [hcl]; simp [h4]
        clear hcl hw
        have ht := tyWay ty
        have hd := idWay id
        unfold someB at HP
        simp only at HP
        generalize typeB ty = tb at *
        generalize idB id = ib at *
        rcases ht with ⟨rfl, rfl⟩ | ⟨rfl, rfl⟩ | ⟨t1, t2, t3, rfl⟩
        all_goals rcases hd with ⟨rfl, rfl⟩ | ⟨d1, d2, rfl⟩
        all_goals
          have hp := HP.out
          try rw [t2] at hp
          try rw [d2] at hp
          simp [ByteArray.toList_eq] at hp
          have HP2 : Hid _ := hp
          clear hp HP
          go_wp2_with (go_at_call 94; refine (iword _ _ (by assumption)).mono ?_; rintro e w' ⟨rfl, k1⟩; obtain ⟨hc, hf⟩ := bcell k1; first | (have hb2 := Nat.lt_of_lt_of_le hb1 (Below.size k1); have HM2 : Hid (Nw w w') := HM.out.trans k1) | (have hb1 := Nat.lt_of_lt_of_le hbx (Below.size k1); have HM : Hid (Nw w w') := HW.out.trans k1))
          all_goals
            go_ret
            refine ⟨ret_bool ?_, by first | exact HM2.out | exact HM.out | exact HW.out⟩
            rw [HP2.out]
            first | rfl | (simp; done) | (rename_i hq; simp [hq]; done) | (rename_i hq1 hq2; simp [hq1, hq2]; done) | trace_state
  · have HX : Hid (partB ⟨ty, id, cls⟩ = false) := by show partB _ = false; unfold partB; simp only; rw [decide_eq_false h4]; simp
    go_enter Tryd.func64, Tryd.ntmps64
    go_wp2
    go_ret
    exact ⟨ret_bool HX.out.symm, (Below.refl _ _).alloc (Nat.le_refl _) _⟩

set_option maxHeartbeats 8000000 in
theorem sgoodPart (w : World) (ty id : ByteArray) (cls : List ByteArray) (a : Option Addr) (c : Nat) (hz : smallP ⟨ty, id, cls⟩) (hr : Strs w a cls) :
    Calls Tryd.prog 69 #[.agg #[.string ty, .string id, .slice a cls.length c]] w fun e w' => e = .returned (.bool (partB ⟨ty, id, cls⟩)) ∧ Nw w w' := by
  obtain ⟨z1, z2, z3, z4⟩ := hz
  simp only at z1 z2 z3 z4
  have HR : Hid (Strs w a cls) := hr
  have HZ : Hid (∀ i, i < cls.length → (strAt cls i).size ≤ 1048576) := z4
  clear hr z4
  have ht := tyWay ty
  have hd := idWay id
  by_cases bt : typeB ty = true
  · by_cases bi : idB id = true
    · by_cases h4 : cls.length ≤ 4
      · have HP : Hid (partB ⟨ty, id, cls⟩ = (clsB cls && someB ⟨ty, id, cls⟩)) := by
          show partB _ = _
          unfold partB; simp only; rw [bt, bi]; simp [h4]
        rw [bt] at ht
        rw [bi] at hd
        unfold someB at HP
        simp only at HP
        clear bt bi
        have hwn : Nw w (w.alloc (.cells #[.string ty, .string id, .slice a cls.length c] 56)) := (Below.refl _ _).alloc (Nat.le_refl _) _
        have HR2 : Hid (Strs (w.alloc (.cells #[.string ty, .string id, .slice a cls.length c] 56)) a cls) := HR.out.nw hwn
        have HW : Hid (Nw w (w.alloc (.cells #[.string ty, .string id, .slice a cls.length c] 56))) := hwn
        clear hwn HR
        rcases ht with ⟨rfl, _⟩ | ⟨rfl, _⟩ | ⟨t1, t2, t3, t4⟩
        all_goals rcases hd with ⟨rfl, _⟩ | ⟨d1, d2, d3⟩
        all_goals
          have hp := HP.out
          try rw [t2] at hp
          try rw [d2] at hp
          simp [ByteArray.toList_eq] at hp
          have HP2 : Hid _ := hp
          clear hp HP
          go_enter Tryd.func69, Tryd.ntmps69
          go_wp2_with (go_at_call 71; refine (sword _ _ (by assumption)).mono ?_; (first | rw [t4] | rw [d3]); rintro e w' ⟨rfl, rfl⟩)
          go_loop [39] (fun i => ∃ k : Nat, k ≤ cls.length ∧ i = .int .i64 k ∧ ClsTo cls k) (fun i => cls.length - (intOf i).toNat)
          case atStart => exact ⟨0, Nat.zero_le _, rfl, fun i hi => absurd hi (by omega)⟩
          case round =>
            obtain ⟨k, hk, rfl, hto⟩ := hrel
            have HO : Hid (ClsTo cls k) := hto
            clear hto
            by_cases hlt : k < cls.length
            · rcases HR2.out with h | ⟨b, o, rfl, hb, hc⟩
              · rw [h] at hlt; simp at hlt
              have q0 := hc k hlt
              have y1 := HZ.out k hlt
              clear hc hb HR2
              by_cases hwd : wordB (strAt cls k) = true
              · have HK : Hid (wordB (strAt cls k) = true) := hwd
                go_wp2_with (go_at_call 71; refine (sword _ _ y1).mono ?_; rw [hwd]; rintro e w' ⟨rfl, rfl⟩)
                go_round
                case rel => exact ⟨k + 1, by omega, by go_num, HO.out.step HK.out⟩
                case measure => simp [intOf]; omega
              · have hwd' : wordB (strAt cls k) = false := by simpa using hwd
                go_wp2_with (go_at_call 71; refine (sword _ _ y1).mono ?_; rw [hwd']; rintro e w' ⟨rfl, rfl⟩)
                go_ret
                exact ⟨ret_bool (by rw [HP2.out, clsB_no hlt hwd']; first | done | simp), HW.out⟩
            · have HX : Hid (clsB cls = true) := (clsB_iff cls).2 fun i hi => HO.out i (by omega)
              clear HR2
              go_wp2
              all_goals
                go_ret
                refine ⟨ret_bool ?_, HW.out⟩
                rw [HP2.out, HX.out]
                first | rfl | (simp; done) | (rename_i hq; simp [hq]; done) | trace_state
      · have HX : Hid (partB ⟨ty, id, cls⟩ = false) := by
          show partB _ = false
          unfold partB; simp only; rw [decide_eq_false h4]; simp
        rw [bt] at ht
        rw [bi] at hd
        clear HR HZ bt bi
        rcases ht with ⟨rfl, _⟩ | ⟨rfl, _⟩ | ⟨t1, t2, t3, t4⟩
        all_goals rcases hd with ⟨rfl, _⟩ | ⟨d1, d2, d3⟩
        all_goals
          go_enter Tryd.func69, Tryd.ntmps69
          go_wp2_with (go_at_call 71; refine (sword _ _ (by assumption)).mono ?_; (first | rw [t4] | rw [d3]); rintro e w' ⟨rfl, rfl⟩)
          go_ret
          exact ⟨ret_bool HX.out.symm, (Below.refl _ _).alloc (Nat.le_refl _) _⟩
    · have bi' : idB id = false := by simpa using bi
      have HX : Hid (partB ⟨ty, id, cls⟩ = false) := by
        show partB _ = false
        unfold partB; simp only; rw [bi']; simp
      rw [bt] at ht
      rw [bi'] at hd
      clear HR HZ bt bi bi'
      rcases hd with ⟨_, h⟩ | ⟨d1, d2, d3⟩
      · cases h
      rcases ht with ⟨rfl, _⟩ | ⟨rfl, _⟩ | ⟨t1, t2, t3, t4⟩
      all_goals
        go_enter Tryd.func69, Tryd.ntmps69
        go_wp2_with (go_at_call 71; refine (sword _ _ (by assumption)).mono ?_; (first | rw [t4] | rw [d3]); rintro e w' ⟨rfl, rfl⟩)
        go_ret
        exact ⟨ret_bool HX.out.symm, (Below.refl _ _).alloc (Nat.le_refl _) _⟩
  · have bt' : typeB ty = false := by simpa using bt
    have HX : Hid (partB ⟨ty, id, cls⟩ = false) := by
      show partB _ = false
      unfold partB; simp only; rw [bt']; simp
    rw [bt'] at ht
    clear HR HZ bt bt' hd
    rcases ht with ⟨_, h⟩ | ⟨_, h⟩ | ⟨t1, t2, t3, t4⟩
    · cases h
    · cases h
    go_enter Tryd.func69, Tryd.ntmps69
    go_wp2_with (go_at_call 71; refine (sword _ _ (by assumption)).mono ?_; rw [t4]; rintro e w' ⟨rfl, rfl⟩)
    go_ret
    exact ⟨ret_bool HX.out.symm, (Below.refl _ _).alloc (Nat.le_refl _) _⟩
end Go.Proofs.YtnkmdmmlpidcmaaDoor
