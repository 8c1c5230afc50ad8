/-
  A region that draws its order and holds operations that act on the memory, in any order that their waitings allow: a condition told by which of them have come up; each theorem names its conditions.
-/
import Derived.Test.YtoajjdlgipphiaaRg2
namespace Go.Proofs.Ytoajjdlgipphiaa
open Go.ChangeShapes Go.WideShapes Go.ChangeAt Go.RowKit
set_option linter.unusedVariables false

theorem nodup_at : ∀ (l : List Nat) (j k i : Nat), l.Nodup → l[j]? = some i → l[k]? = some i → j = k
  | [], _, _, _, _, h, _ => by simp at h
  | x :: l, 0, 0, _, _, _, _ => rfl
  | x :: l, 0, k + 1, i, hnd, h1, h2 => by
    simp at h1 h2
    subst h1
    exact absurd (List.mem_of_getElem? h2) (List.nodup_cons.1 hnd).1
  | x :: l, j + 1, 0, i, hnd, h1, h2 => by
    simp at h1 h2
    subst h2
    exact absurd (List.mem_of_getElem? h1) (List.nodup_cons.1 hnd).1
  | x :: l, j + 1, k + 1, i, hnd, h1, h2 => by
    simp at h1 h2
    rw [nodup_at l j k i (List.nodup_cons.1 hnd).2 h1 h2]
/-- Which of the acting ones have come up. -/
def upOf (listed : Array Bool) (acts : List Nat) (k : Nat) : Bool := match acts[k]? with | some i => listed.getD i false | none => false
def upS (S : Nat → Bool) (k : Nat) : Nat → Bool := fun j => if j = k then true else S j
theorem upOf_ne {listed : Array Bool} {acts : List Nat} {i : Nat} (hi : i < listed.size) (h : i ∉ acts) : upOf (listed.setIfInBounds i true) acts = upOf listed acts := by
  funext k
  unfold upOf
  cases e : acts[k]? with
  | none => rfl
  | some j =>
    have hj : j ≠ i := fun e2 => h (by rw [← e2]; exact List.mem_of_getElem? e)
    simp only
    rw [getF_set hi, decide_eq_false hj, Bool.false_or]
theorem upOf_set {listed : Array Bool} {acts : List Nat} {i k : Nat} (hi : i < listed.size) (hk : acts[k]? = some i) (hnd : acts.Nodup) : upOf (listed.setIfInBounds i true) acts = upS (upOf listed acts) k := by
  funext j
  unfold upOf upS
  by_cases e : j = k
  · subst e
    rw [hk, if_pos rfl]
    simp only
    rw [getF_set hi]; simp
  · rw [if_neg e]
    cases e2 : acts[j]? with
    | none => simp only [e2]
    | some x =>
      have hx : x ≠ i := fun e3 => e (nodup_at acts j k i hnd (by rw [← e3]; exact e2) hk)
      simp only [e2]
      rw [getF_set hi, decide_eq_false hx, Bool.false_or]
/-- The values: some hang on what an acting one answered. -/
def valH (av : Nat → Option Nat) (ext : Nat → Value → Value) (val0 : Nat → Value) (γ : Nat → Value) (d : Nat) : Value := match av d with | some k => ext d (γ k) | none => val0 d
section
variable {ops : Array Oper} {acts : List Nat} {av : Nat → Option Nat} {ext : Nat → Value → Value} {val0 : Nat → Value} {Wd : (Nat → Bool) → (Nat → Value) → World → Prop} {a0 : Act} {Q : Exit → Act → World → Prop}
def InvH (ops : Array Oper) (acts : List Nat) (av : Nat → Option Nat) (ext : Nat → Value → Value) (val0 : Nat → Value) (Wd : (Nat → Bool) → (Nat → Value) → World → Prop) (a0 : Act) (listed : Array Bool) (a : Act) (w : World) : Prop :=
  ∃ γ, FrI ops (valH av ext val0 γ) a0 listed a ∧ Clo ops listed ∧ Wd (upOf listed acts) γ w
def StepH (ops : Array Oper) (acts : List Nat) (av : Nat → Option Nat) (ext : Nat → Value → Value) (val0 : Nat → Value) (Wd : (Nat → Bool) → (Nat → Value) → World → Prop) (a0 : Act) (Q : Exit → Act → World → Prop) (i : Nat) : Prop :=
  ∀ γ listed a w o, FrI ops (valH av ext val0 γ) a0 listed a → Clo ops listed → Wd (upOf listed acts) γ w → listed.getD i true = false → ops[i]? = some o → (∀ e ∈ o.after, Region.binds .any e = true → listed.getD e.on false = true) →
    wpOp Try.prog ops Q i (fun a' w' => InvH ops acts av ext val0 Wd a0 (listed.setIfInBounds i true) a' w') a w
/-- An operation that leaves the world alone. -/
theorem st_pureH {γ : Nat → Value} {listed : Array Bool} {a : Act} {w : World} {i d : Nat} {o : Oper} (hF : FrI ops (valH av ext val0 γ) a0 listed a) (hC : Clo ops listed) (hW : Wd (upOf listed acts) γ w) (ho : ops[i]? = some o) (h2 : ∀ e ∈ o.after, Region.binds .any e = true → listed.getD e.on false = true)
    (hna : i ∉ acts) (hd : o.dst = some d) (hg : o.guard = none) (hrun : (execOp a.eval o).run Try.prog w = .ok (.value (valH av ext val0 γ d)) w) : wpOp Try.prog ops Q i (fun a' w' => InvH ops acts av ext val0 Wd a0 (listed.setIfInBounds i true) a' w') a w := by
  have hi := hF.lt ho
  unfold wpOp
  rw [ho]
  have hw : Region.wanted o (yielded ops a.tmps) = true := by unfold Region.wanted; rw [hg]
  simp only [hw, if_true]
  refine Or.inl ?_
  unfold Oper.wp
  rw [hrun]
  exact ⟨γ, hF.put ho hd, hC.set hi ho h2, by rw [upOf_ne hi hna]; exact hW⟩
/-- A slot that an operation has filled that this one waits for. -/
theorem slotH {γ : Nat → Value} {listed : Array Bool} {a : Act} {i j d : Nat} {o : Oper} (hF : FrI ops (valH av ext val0 γ) a0 listed a) (ho : ops[i]? = some o) (h2 : ∀ e ∈ o.after, Region.binds .any e = true → listed.getD e.on false = true) (hw : waitsB ops i j = true) (hd : dstOf ops j = some d) (hs : d < a0.tmps.size) : a.eval (.tmp d) = valH av ext val0 γ d :=
  hF.eval (waits2 ho hw h2) hd hs
/-- Only operation i, and what comes behind it, fills slots that hang on letter k. -/
def injB (ops : Array Oper) (av : Nat → Option Nat) (i k : Nat) (ps : List (List Nat)) : Bool :=
  (List.range ops.size).all fun j => decide (j = i) || !(match dstOf ops j with | some d => decide (av d = some k) | none => false) || ps.any fun p => decide (p.head? = some j) && (p.contains i && pathB ops p)
theorem inj_of {listed : Array Bool} {i k : Nat} {ps : List (List Nat)} (h : injB ops av i k ps = true) (hC : Clo ops listed) (hu : listed.getD i false = false) : ∀ d, got ops listed d → av d ≠ some k := by
  rintro d ⟨j, h1, h2⟩ h3
  have hlt : j < ops.size := by
    rcases Nat.lt_or_ge j ops.size with h4 | h4
    · exact h4
    · unfold dstOf at h2; rw [Array.getElem?_eq_none h4] at h2; cases h2
  have h5 := List.all_eq_true.1 h j (List.mem_range.2 hlt)
  rw [h2] at h5
  simp only [h3, decide_true, Bool.not_true, Bool.or_false, Bool.or_eq_true, decide_eq_true_eq, List.any_eq_true, Bool.and_eq_true] at h5
  rcases h5 with h5 | ⟨p, hp, h6, h7, h8⟩
  · subst h5; rw [hu] at h1; cases h1
  · cases p with
    | nil => cases h6
    | cons x p =>
      simp only [List.head?_cons, Option.some.injEq] at h6
      subst h6
      have hmem : i ∈ x :: p := by simpa using h7
      rcases List.mem_cons.1 hmem with e | e
      · rw [e, h1] at hu; cases hu
      · have := hC.path p x h8 h1 i e
        rw [hu] at this; cases this
/-- The acting operation number k. -/
theorem st_actH {γ : Nat → Value} {listed : Array Bool} {a : Act} {w : World} {i k : Nat} {o : Oper} {ps : List (List Nat)} (hnd : acts.Nodup) (hk : acts[k]? = some i) (hij : injB ops av i k ps = true) (hF : FrI ops (valH av ext val0 γ) a0 listed a) (hC : Clo ops listed) (h1 : listed.getD i true = false) (ho : ops[i]? = some o) (h2 : ∀ e ∈ o.after, Region.binds .any e = true → listed.getD e.on false = true)
    (hd : (o.dst = none) ∨ ∃ d, o.dst = some d ∧ av d = some k ∧ ∀ u, ext d u = u) (hg : o.guard = none)
    (hrun : ∀ K : Act → World → Prop, (∀ u w', Wd (upS (upOf listed acts) k) (updG γ k u) w' → K (a.put o.dst u) w') → o.wp Try.prog a w K Q) :
    wpOp Try.prog ops Q i (fun a' w' => InvH ops acts av ext val0 Wd a0 (listed.setIfInBounds i true) a' w') a w := by
  have hi := hF.lt ho
  have hu := unl hi h1
  have hinj := inj_of hij hC hu
  unfold wpOp
  rw [ho]
  have hw : Region.wanted o (yielded ops a.tmps) = true := by unfold Region.wanted; rw [hg]
  simp only [hw, if_true]
  refine Or.inl (hrun _ ?_)
  intro u w' hW'
  have hF2 : FrI ops (valH av ext val0 (updG γ k u)) a0 listed a := hF.cong (fun d hgd => by
    unfold valH
    cases hav : av d with
    | none => rfl
    | some j =>
      have : j ≠ k := fun e => hinj d hgd (by rw [hav, e])
      simp [updG, this])
  refine ⟨updG γ k u, ?_, hC.set hi ho h2, by rw [upOf_set hi hk hnd]; exact hW'⟩
  rcases hd with hd | ⟨d, hd, hav, hex⟩
  · exact hF2.skip ho hd u
  · have := hF2.put ho hd
    have e : valH av ext val0 (updG γ k u) d = u := by unfold valH; rw [hav]; simp [updG, hex]
    rw [e] at this
    exact this
/-- One that this one waits for has come up. -/
theorem up_yes {listed : Array Bool} {i k j : Nat} {o : Oper} (hC : Clo ops listed) (ho : ops[i]? = some o) (h2 : ∀ e ∈ o.after, Region.binds .any e = true → listed.getD e.on false = true) (hk : acts[k]? = some j) (p : List Nat) (hp : pathB ops (i :: p) = true) (hj : j ∈ p) : upOf listed acts k = true := by
  unfold upOf
  rw [hk]
  simp only
  cases p with
  | nil => cases hj
  | cons x p =>
    simp only [pathB, Bool.and_eq_true] at hp
    have hx := waits2 ho hp.1 h2
    rcases List.mem_cons.1 hj with e | e
    · subst e; exact hx
    · exact hC.path p x hp.2 hx j e
theorem up_self {listed : Array Bool} {i k : Nat} (hk : acts[k]? = some i) (hu : listed.getD i false = false) : upOf listed acts k = false := by
  unfold upOf
  rw [hk]
  exact hu
/-- One that waits for this one has not. -/
theorem up_no {listed : Array Bool} {i k x : Nat} (hC : Clo ops listed) (hu : listed.getD i false = false) (hk : acts[k]? = some x) (p : List Nat) (hp : pathB ops (x :: p) = true) (hi : i ∈ p) : upOf listed acts k = false := by
  unfold upOf
  rw [hk]
  simp only
  cases hl : listed.getD x false with
  | false => rfl
  | true =>
    have := hC.path p x hp hl i hi
    rw [hu] at this
    cases this
/-- The region, whatever order comes up. -/
theorem reg_actH {id : Nat} {w : World} (hm : Try.prog.follows .mixedOrders = true) (hup : (List.range ops.size).all (fun i => ((ops[i]?).map (fun o => o.after.all fun e => !Region.binds .any e || decide (e.on < i))).getD true) = true)
    (hac : ∀ i ∈ acts, i < ops.size) (hstep : ∀ i, i < ops.size → StepH ops acts av ext val0 Wd a0 Q i) (γ0 : Nat → Value) (h0 : Wd (fun _ => false) γ0 w.drew) (hend : ∀ S γ w', (∀ k, k < acts.length → S k = true) → Wd S γ w' → Q .normal (putsL (valH av ext val0 γ) ops.toList a0) w') : (Code.region id ops true).wp Try.prog Q a0 w := by
  refine wp_region_any hm ?_
  refine wpAny_inv (InvH ops acts av ext val0 Wd a0) (fun listed a w i o hI h1 ho h2 => ?_) (fun listed a w hI hr => ?_) _ _ _ _ ?_ ?_
  · obtain ⟨γ, hF, hC, hW⟩ := hI
    exact hstep i (Array.getElem?_eq_some_iff.1 ho).1 γ listed a w o hF hC hW h1 ho h2
  · obtain ⟨γ, hF, hC, hW⟩ := hI
    have hall := all_ready2 hup hF.size hr
    rw [hF.puts hall]
    refine hend _ γ w (fun k hk => ?_) hW
    unfold upOf
    rw [List.getElem?_eq_getElem hk]
    exact hall _ (hac _ (List.getElem_mem hk))
  · have hno : ∀ j, (Array.replicate ops.size false).getD j false = false := fun j => by
      rw [Array.getD_eq_getD_getElem?, Array.getElem?_replicate]; split <;> rfl
    refine ⟨γ0, ⟨by simp, rfl, rfl, fun d _ hg => ?_, fun d _ => rfl⟩, fun i j h => ?_, ?_⟩
    · obtain ⟨i, h1, _⟩ := hg; rw [hno] at h1; cases h1
    · rw [hno] at h; cases h
    · have : upOf (Array.replicate ops.size false) acts = fun _ => false := by
        funext k
        unfold upOf
        cases acts[k]? with
        | none => rfl
        | some i => exact hno i
      rw [this]
      exact h0
  · unfold left; exact Nat.le_trans (List.length_filter_le _ _) (by simp)
end
end Go.Proofs.Ytoajjdlgipphiaa
