/-
  A selector read from a text: pure facts; each theorem names its conditions.
  Declarations read by the program; each theorem names its conditions.
  Rules read from a text, on lists of bytes: pure facts; each theorem names its conditions.
  A text without its comments, on lists of bytes: as the specification makes it and as the program does; pure facts.
-/
import Derived.Test.YtnkmdmmlpidcmaaGreatDoorJAH
import Derived.Test.YtnkmdmmlpidcmaaGreatDoorJAG
import Derived.WalkMore
import Derived.ScopeJumps
import Derived.Test.YtnkmdmmlpidcmaaGreatDoorJAE
import Derived.Lib.IndexMore
namespace Go.Proofs.YtnkmdmmlpidcmaaGreatDoor
open Go.ChangeShapes Go.WideShapes Go.ChangeAt Go.RowKit
set_option linter.unusedVariables false

def okW (s : ByteArray) : Bool := (prP s).isSome
def selOkW (ws : List ByteArray) : Bool := decide (1 ≤ ws.length ∧ ws.length ≤ 5) && ws.all okW
def selOk (s : ByteArray) : Bool := selOkW (wordsOf s)
def selLW (ws : List ByteArray) : List PD := if selOkW ws then ws.map prD else []
def selL (s : ByteArray) : List PD := selLW (wordsOf s)
/-- What a reader of a selector says. -/
def SelSays (s : ByteArray) (w w' : World) (e : Ending) : Prop := ∃ v, e = .returned (.tuple #[v, .bool (selOk s)]) ∧ RowM 3 EPart w' v (selL s) (iv w w')
theorem prD_of {s : ByteArray} {p : PD} (h : prP s = some p) : prD s = p ∧ okW s = true := by unfold prD okW; rw [h]; exact ⟨rfl, rfl⟩
theorem okW_no {s : ByteArray} (h : prP s = none) : okW s = false := by unfold okW; rw [h]; rfl
theorem selOkW_bad {ws : List ByteArray} {x : ByteArray} (hx : x ∈ ws) (h : okW x = false) : selOkW ws = false := by
  unfold selOkW
  have : ws.all okW = false := by
    rw [List.all_eq_false]
    exact ⟨x, hx, by rw [h]; simp⟩
  rw [this, Bool.and_false]
theorem selOkW_many {ws : List ByteArray} (h : 5 < ws.length) : selOkW ws = false := by
  unfold selOkW
  rw [decide_eq_false (by omega), Bool.false_and]
theorem selOkW_none : selOkW [] = false := rfl
theorem selOkW_yes {ws : List ByteArray} (h1 : 1 ≤ ws.length) (h5 : ws.length ≤ 5) (h : ws.all okW = true) : selOkW ws = true := by
  unfold selOkW
  rw [decide_eq_true ⟨h1, h5⟩, h]; rfl
theorem selLW_no {ws : List ByteArray} (h : selOkW ws = false) : selLW ws = [] := by unfold selLW; rw [h]; rfl
theorem selLW_yes {ws : List ByteArray} (h : selOkW ws = true) : selLW ws = ws.map prD := by unfold selLW; rw [h]; rfl
/-- Behind all words. -/
theorem selW_end {ws : List ByteArray} (h5 : ws.length ≤ 5) (h : ws.all okW = true) : selOkW ws = decide (0 < ws.length) ∧ selLW ws = ws.map prD := by
  by_cases h1 : 1 ≤ ws.length
  · have := selOkW_yes h1 h5 h
    exact ⟨by rw [this, decide_eq_true (by omega)], selLW_yes this⟩
  · have e : ws = [] := List.eq_nil_of_length_eq_zero (by omega)
    subst e
    exact ⟨rfl, rfl⟩
theorem wordsOf_size (s : ByteArray) (i : Nat) : (strAt (wordsOf s) i).size ≤ s.size := by
  unfold strAt wordsOf
  by_cases h : i < (Lib.closeSpans s (spB s s.size 0 none [])).length
  · simp [h]; omega
  · simp [h]; exact Nat.zero_le _
/-- What has been told stays. -/
theorem spB_pre (s : ByteArray) : ∀ (f pos : Nat) (st : Option Nat) (acc : List (Nat × Nat)), acc <+: (spB s f pos st acc).1 := by
  intro f
  induction f with
  | zero => intro pos st acc; exact List.prefix_refl _
  | succ f ih =>
    intro pos st acc
    unfold spB
    split
    · split
      · cases st with
        | none => exact ih _ _ _
        | some a => exact (List.prefix_append _ _).trans (ih _ _ _)
      · cases st with
        | none => exact ih _ _ _
        | some a => exact ih _ _ _
    · exact List.prefix_refl _
theorem WdSt.pre {s : ByteArray} {pos : Nat} {st : Option Nat} {acc : List (Nat × Nat)} (h : WdSt s pos st acc) : cutT s acc <+: wordsOf s := by
  have h1 := spB_pre s (s.size - pos) pos st acc
  rw [h.rest] at h1
  unfold wordsOf cutT
  refine (h1.map _).trans ?_
  unfold Lib.closeSpans
  split
  · rw [List.map_append]; exact List.prefix_append _ _
  · exact List.prefix_refl _
end Go.Proofs.YtnkmdmmlpidcmaaGreatDoor
namespace Go.Proofs.YtnkmdmmlpidcmaaGreatDoor
open Go.ChangeShapes Go.WideShapes Go.ChangeAt Go.RowKit
set_option linter.unusedVariables false

/-- A scope whose one label stands at its end. -/
theorem scope_fwd {c : Code} {Q : Exit → Act → World → Prop} {a : Act} {w : World} (l : Nat) (hf : findLabel c l = some Code.skip) (h : c.wp Tryz.prog (Exit.jump l (fun a w => Q .normal a w) Q) a w) : (Code.scope c).wp Tryz.prog Q a w :=
  wp_scope_jumps l (fun a w => Q .normal a w) (fun _ _ => 0) hf h (fun a w hJ => wp_skip hJ)
theorem jump_normal {l : Nat} {J : Act → World → Prop} {Q : Exit → Act → World → Prop} {a : Act} {w : World} : Exit.jump l J Q .normal a w = Q .normal a w := rfl
/-- The first twelve declarations. -/
def dcs (ps : List ByteArray) : List DD := (ps.filterMap declP).take 12
theorem dcs_none {l : List ByteArray} {x : ByteArray} (h : declP x = none) : dcs (l ++ [x]) = dcs l := by
  unfold dcs
  rw [List.filterMap_append]
  simp [h]
theorem dcs_full {l : List ByteArray} {x : ByteArray} (h : (dcs l).length = 12) : dcs (l ++ [x]) = dcs l := by
  unfold dcs at *
  rw [List.length_take] at h
  rw [List.filterMap_append, List.take_append_of_le_length (by omega)]
theorem dcs_more {l : List ByteArray} {x : ByteArray} {d : DD} (h : declP x = some d) (hl : (dcs l).length < 12) : dcs (l ++ [x]) = dcs l ++ [d] := by
  unfold dcs at *
  rw [List.length_take] at hl
  rw [List.filterMap_append]
  have e : List.filterMap declP [x] = [d] := by simp [h]
  rw [e, List.take_of_length_le (by simp; omega), List.take_of_length_le (by omega)]
theorem dcs_le (l : List ByteArray) : (dcs l).length ≤ 12 := by unfold dcs; rw [List.length_take]; omega
theorem take_at {l : List ByteArray} {k : Nat} (h : k < l.length) : l.take (k + 1) = l.take k ++ [strAt l k] := by
  rw [List.take_succ_eq_append_getElem h]
  simp [strAt, h]
def DeclsSays (s : ByteArray) (w w' : World) (e : Ending) : Prop := ∃ v, e = .returned v ∧ RowM 3 EDecl w' v (dcs (pcB 59 s)) (iv w w')
theorem pcsz (c : UInt8) : ∀ (l x : List UInt8), x ∈ pcs c l → x.length ≤ l.length := by
  intro l
  induction l with
  | nil => intro x hx; simp [pcs] at hx; subst hx; exact Nat.le_refl _
  | cons b l ih =>
    intro x hx
    rw [pcs] at hx
    split at hx
    · rcases List.mem_cons.1 hx with e | h
      · subst e; exact Nat.zero_le _
      · have := ih x h; simp; omega
    · cases hp : pcs c l with
      | nil => exact absurd hp (pcs_ne c l)
      | cons y r =>
        rw [hp] at hx ih
        rcases List.mem_cons.1 hx with e | h
        · subst e
          have := ih y List.mem_cons_self
          simp; omega
        · have := ih x (List.mem_cons_of_mem _ h)
          simp; omega
theorem pcB_size (c : UInt8) (s : ByteArray) (hs : s.size ≤ 1048576) (i : Nat) : (strAt (pcB c s) i).size ≤ 1048576 := by
  unfold strAt pcB
  by_cases h : i < (pcs c s.data.toList).length
  · have e : ((pcs c s.data.toList).map bA).getD i ⟨#[]⟩ = bA (pcs c s.data.toList)[i] := by simp [h]
    rw [e, bA_size]
    have := pcsz c s.data.toList _ (List.getElem_mem h)
    rw [data_len] at this
    omega
  · have e : ((pcs c s.data.toList).map bA).getD i ⟨#[]⟩ = ⟨#[]⟩ := by simp [h]
    rw [e]; exact Nat.zero_le _
theorem isplit (s : ByteArray) (c : UInt8) (w : World) (hs : s.size ≤ 1048576) :
    Calls Tryz.prog 76 #[.string s, .string ⟨#[c]⟩] w fun e w' => e = .returned (.slice (some ⟨w.heap.size, 0, none⟩) (pcB c s).length (pcB c s).length) ∧ Nw w w' ∧ LayS w' w.heap.size (pcB c s) (pcB c s).length := by
  go_enter Tryz.func76, Tryz.ntmps76
  go_wp2_with (go_at_call 111; refine (gsplit1 s c _ hs).mono ?_; rintro e w' ⟨rfl, k1, k2⟩)
  go_ret
  exact ⟨rfl, k1, k2⟩
set_option maxHeartbeats 8000000 in
theorem ideclsOf (s : ByteArray) (w : World) (hs : s.size ≤ 1048576) :
    Calls Tryz.prog 69 #[.string s] w fun e w' => DeclsSays s w w' e ∧ Nw w w' := by
  have HSZ : Hid (∀ i, (strAt (pcB 59 s) i).size ≤ 1048576) := fun i => pcB_size 59 s hs i
  have hpl : (pcB 59 s).length ≤ 1048577 := by rw [pcB_len]; have := count_le_size 59 s; omega
  have HI : Hid (Calls Tryz.prog 76 #[.string s, .string ⟨#[59]⟩] w fun e w' => e = .returned (.slice (some ⟨w.heap.size, 0, none⟩) (pcB 59 s).length (pcB 59 s).length) ∧ Nw w w' ∧ LayS w' w.heap.size (pcB 59 s) (pcB 59 s).length) := isplit s 59 w hs
  unfold DeclsSays
  generalize pcB 59 s = ps at *
  go_enter Tryz.func69, Tryz.ntmps69
  go_wp2_with fail
  refine Calls.mono HI.out ?_
  rintro e w1 ⟨rfl, k1, l1⟩
  have HN1 : Hid (Nw w w1) := k1
  have HL1 : Hid (LayS w1 w.heap.size ps ps.length) := l1
  clear HI k1 l1
  go_wp2
  go_loopw [3, 11] (fun v i wr => ∃ (k : Nat) (els : List (El DD)), k ≤ ps.length ∧ i = .int .i64 k ∧ RowO 36 3 EDecl wr w1.heap.size v els ∧ els.map El.x = dcs (ps.take k) ∧ Nw w1 wr) (fun _ i _ => ps.length - (intOf i).toNat)
  case atStart => exact ⟨0, [], Nat.zero_le _, rfl, RowO.nil _ _ _ _ _, rfl, Below.refl _ _⟩
  case round =>
    obtain ⟨k, els, hk, rfl, hro, hmx, hw⟩ := hrel
    have hel : els.length = (dcs (ps.take k)).length := by have := congrArg List.length hmx; simpa using this
    have h12 := dcs_le (ps.take k)
    obtain ⟨va, vc, hv⟩ := hro.slice
    subst hv
    have HR : Hid (RowO 36 3 EDecl wr w1.heap.size (.slice va els.length vc) els) := hro
    have HM : Hid (els.map El.x = dcs (ps.take k)) := hmx
    have HW : Hid (Nw w1 wr) := hw
    have HEL : Hid (els.length = (dcs (ps.take k)).length) := hel
    have hel12 : els.length ≤ 12 := by omega
    clear hro hmx hel h12
    by_cases hlt : k < ps.length
    · have q0 := (HL1.out.nw hw).2.1 k hlt
      have hgq := (HL1.out.nw hw).1
      have hz := HSZ.out k
      have HTK : Hid (ps.take (k + 1) = ps.take k ++ [strAt ps k]) := take_at hlt
      clear hw
      generalize strAt ps k = x at *
      have hkI : (k : Int) < (ps.length : Int) := by omega
      go_wp2_with fail
      refine scope_fwd 0 (by kernel_rfl) ?_
      go_wp2_with fail
      refine Calls.mono (ideclOf x _ hz) ?_
      rintro e w2 ⟨⟨d, hp, rfl⟩ | ⟨hp, tx, ty, tb, rfl⟩, k2⟩
      · by_cases h5 : els.length = 12
        · have HX : Hid (dcs (ps.take (k + 1)) = dcs (ps.take k)) := by show _ = _; rw [HTK.out]; exact dcs_full (by rw [← HEL.out]; exact h5)
          have HR2 : ∀ o, Hid (RowO 36 3 EDecl (w2.alloc o) w1.heap.size (.slice va els.length vc) els) := fun o => (HR.out.nw EDecl.kept k2).nw EDecl.kept ((Below.refl _ _).alloc (Nat.le_refl _) _)
          have HN2 : ∀ o, Hid (Nw w1 (w2.alloc o)) := fun o => Nw.trans (Nw.trans HW.out k2) ((Below.refl _ _).alloc (Nat.le_refl _) _)
          have g12 : ((els.length : Int) == 12) = true := by rw [h5]; rfl
          clear k2 q0 hp h5
          go_wp2
          apply wp_goto
          refine ⟨rfl, ?_⟩
          show Exit.inBlock 1 _ Exit.normal _ _
          go_wp2
          go_roundw
          case rel => exact ⟨k + 1, els, by omega, by go_num, (HR2 _).out, by rw [HX.out]; exact HM.out, (HN2 _).out⟩
          case measure => simp [intOf]; omega
        · have HX : Hid (dcs (ps.take (k + 1)) = dcs (ps.take k) ++ [d]) := by show _ = _; rw [HTK.out]; exact dcs_more hp (by rw [← HEL.out]; omega)
          have HK2 : Hid (Nw wr w2) := k2
          have g12 : ((els.length : Int) == 12) = false := by simp; omega
          have HL12 : Hid (els.length ≤ 10000000) := by show _ ≤ _; omega
          clear k2 q0 hp h5
          obtain ⟨dn, dv, di⟩ := d
          simp only
          have HNA : ∀ o1 o2, Hid (Nw wr ((w2.alloc o1).alloc o2)) := fun o1 o2 => Nw.trans HK2.out (((Below.refl _ _).alloc (Nat.le_refl _) _).alloc (by simp) _)
          have HEP : ∀ o1 o2, Hid (EDecl ((w2.alloc o1).alloc o2) [.string dn, .string dv, .bool di] ⟨dn, dv, di⟩ (iv wr ((w2.alloc o1).alloc o2))) := fun o1 o2 => rfl
          go_wp2_with (at_builtin; (refine wp_rw EDecl.kept Tryz.underlying30 Tryz.info36 rfl (by decide) (by decide) wr _ rfl _ _ rfl w1.heap.size _ els rfl HR.out (HNA _ _).out (Below.size HW.out) _ rfl ⟨dn, dv, di⟩ [.string dn, .string dv, .bool di] ?c1 rfl ?c2 (HEP _ _).out HL12.out ?_))
          case c1 =>
            intro j y hj
            rcases (show j = 0 ∨ j = 1 ∨ j = 2 ∨ 3 ≤ j by omega) with rfl | rfl | rfl | h
            · simp at hj; subst hj; simp
            · simp at hj; subst hj; simp
            · simp at hj; subst hj; simp
            · rw [List.getElem?_eq_none (by simpa using h)] at hj; cases hj
          case c2 =>
            intro y hy
            simp only [List.mem_cons, List.not_mem_nil, or_false] at hy
            rcases hy with rfl | rfl | rfl <;> rfl
          intro v' w' h1 h2
          have HN : Hid (Nw w1 w') := Below.trans (HW.out.trans (HNA _ _).out) (Ext.below h2 (fun g e => (HR.out.lt g e).1) (Nat.le_trans (Below.size HW.out) (Below.size (HNA _ _).out)))
          have H1 : Hid _ := h1
          clear h1 h2
          go_wp2
          apply wp_label
          show Exit.inBlock 1 _ Exit.normal _ _
          go_wp2
          go_roundw
          case rel => exact ⟨k + 1, _, by omega, by go_num, H1.out, by rw [HX.out, List.map_append, HM.out]; rfl, HN.out⟩
          case measure => simp [intOf]; omega
      · have HX : Hid (dcs (ps.take (k + 1)) = dcs (ps.take k)) := by show _ = _; rw [HTK.out]; exact dcs_none hp
        have HR2 : ∀ o, Hid (RowO 36 3 EDecl (w2.alloc o) w1.heap.size (.slice va els.length vc) els) := fun o => (HR.out.nw EDecl.kept k2).nw EDecl.kept ((Below.refl _ _).alloc (Nat.le_refl _) _)
        have HN2 : ∀ o, Hid (Nw w1 (w2.alloc o)) := fun o => Nw.trans (Nw.trans HW.out k2) ((Below.refl _ _).alloc (Nat.le_refl _) _)
        clear k2 q0 hp
        go_wp2
        apply wp_goto
        refine ⟨rfl, ?_⟩
        show Exit.inBlock 1 _ Exit.normal _ _
        go_wp2
        go_roundw
        case rel => exact ⟨k + 1, els, by omega, by go_num, (HR2 _).out, by rw [HX.out]; exact HM.out, (HN2 _).out⟩
        case measure => simp [intOf]; omega
    · have hk2 : k = ps.length := by omega
      have HE : Hid (els.map El.x = dcs ps) := by show _ = _; rw [HM.out, hk2, List.take_length]
      have hkn : ¬ ((k : Int) < (ps.length : Int)) := by omega
      clear hk2 hw
      go_wp2
      go_ret
      refine ⟨⟨_, rfl, ?_⟩, Nw.trans HN1.out HW.out⟩
      rw [← HE.out]
      exact RowO.row HR.out (fun b h1 h2 => ⟨Nat.le_trans (Below.size HN1.out) h1, h2⟩)
end Go.Proofs.YtnkmdmmlpidcmaaGreatDoor
namespace Go.Proofs.YtnkmdmmlpidcmaaGreatDoor
open Go.ChangeShapes Go.WideShapes Go.ChangeAt Go.RowKit
set_option linter.unusedVariables false

def selsW (s : ByteArray) : List (List PD) := (pcB 44 s).map selL
def selsOk (s : ByteArray) : Bool := (pcB 44 s).all selOk
/-- The text ahead of a rule's bracket, what is inside, and what comes behind. -/
def aheadL (l : List UInt8) : List UInt8 := l.take (brk 123 l)
def behindL (l : List UInt8) : List UInt8 := l.drop (brk 123 l + 1)
def insideL (l : List UInt8) : List UInt8 := (behindL l).take (brk 125 (behindL l))
def restL (l : List UInt8) : List UInt8 := (behindL l).drop (brk 125 (behindL l) + 1)
def ruleL (l : List UInt8) : RD := ⟨selsW (bA (aheadL l)), dcs (pcB 59 (bA (insideL l)))⟩
def oneR (l : List UInt8) : List RD := if selsOk (bA (aheadL l)) then [ruleL l] else []
def rulesF : Nat → List UInt8 → List RD
  | 0, _ => []
  | f + 1, l => if brk 123 l < l.length then oneR l ++ rulesF f (restL l) else []
theorem restL_len {l : List UInt8} (h : brk 123 l < l.length) : (restL l).length < l.length := by
  unfold restL behindL
  rw [List.length_drop, List.length_drop]
  omega
theorem rulesF_fuel : ∀ (f g : Nat) (l : List UInt8), l.length < f → l.length < g → rulesF f l = rulesF g l := by
  intro f
  induction f with
  | zero => intro g l h; omega
  | succ f ih =>
    intro g l h1 h2
    cases g with
    | zero => omega
    | succ g =>
      unfold rulesF
      by_cases h : brk 123 l < l.length
      · rw [if_pos h, if_pos h]
        have := restL_len h
        rw [ih g (restL l) (by omega) (by omega)]
      · rw [if_neg h, if_neg h]
def rulesA (l : List UInt8) : List RD := rulesF (l.length + 1) l
theorem rulesA_miss {l : List UInt8} (h : ¬ brk 123 l < l.length) : rulesA l = [] := by unfold rulesA rulesF; rw [if_neg h]
theorem rulesA_hit {l : List UInt8} (h : brk 123 l < l.length) : rulesA l = oneR l ++ rulesA (restL l) := by
  have := restL_len h
  unfold rulesA
  conv => lhs; unfold rulesF
  rw [if_pos h, rulesF_fuel l.length ((restL l).length + 1) (restL l) (by omega) (by omega)]
/-- The first thirty rules. -/
def rules30 (s : ByteArray) : List RD := (rulesA s.data.toList).take 30
/-- What has been read and what is left. -/
def RuSt (s : ByteArray) (r : List UInt8) (xs : List RD) : Prop := ∃ acc, rulesA s.data.toList = acc ++ rulesA r ∧ xs = acc.take 30
theorem RuSt.start (s : ByteArray) : RuSt s s.data.toList [] := ⟨[], rfl, rfl⟩
theorem RuSt.fin {s : ByteArray} {r : List UInt8} {xs : List RD} (h : RuSt s r xs) (hm : ¬ brk 123 r < r.length) : xs = rules30 s := by
  obtain ⟨acc, h1, h2⟩ := h
  rw [rulesA_miss hm, List.append_nil] at h1
  unfold rules30
  rw [h1]; exact h2
theorem RuSt.le {s : ByteArray} {r : List UInt8} {xs : List RD} (h : RuSt s r xs) : xs.length ≤ 30 := by
  obtain ⟨acc, _, h2⟩ := h
  rw [h2, List.length_take]; omega
theorem RuSt.bad {s : ByteArray} {r : List UInt8} {xs : List RD} (h : RuSt s r xs) (hm : brk 123 r < r.length) (hb : selsOk (bA (aheadL r)) = false) : RuSt s (restL r) xs := by
  obtain ⟨acc, h1, h2⟩ := h
  refine ⟨acc, ?_, h2⟩
  rw [h1, rulesA_hit hm]
  unfold oneR
  rw [hb]; rfl
theorem RuSt.full {s : ByteArray} {r : List UInt8} {xs : List RD} (h : RuSt s r xs) (hm : brk 123 r < r.length) (hx : xs.length = 30) : RuSt s (restL r) xs := by
  obtain ⟨acc, h1, h2⟩ := h
  refine ⟨acc ++ oneR r, by rw [h1, rulesA_hit hm, List.append_assoc], ?_⟩
  have : 30 ≤ acc.length := by rw [h2, List.length_take] at hx; omega
  rw [List.take_append_of_le_length this]; exact h2
theorem RuSt.more {s : ByteArray} {r : List UInt8} {xs : List RD} (h : RuSt s r xs) (hm : brk 123 r < r.length) (hb : selsOk (bA (aheadL r)) = true) (hx : xs.length < 30) : RuSt s (restL r) (xs ++ [ruleL r]) := by
  obtain ⟨acc, h1, h2⟩ := h
  refine ⟨acc ++ [ruleL r], ?_, ?_⟩
  · rw [h1, rulesA_hit hm]
    unfold oneR
    rw [hb, List.append_assoc]; rfl
  · have : acc.length < 30 := by rw [h2, List.length_take] at hx; omega
    rw [List.take_of_length_le (by simp; omega), h2, List.take_of_length_le (by omega)]
end Go.Proofs.YtnkmdmmlpidcmaaGreatDoor
namespace Go.Proofs.YtnkmdmmlpidcmaaGreatDoor
set_option linter.unusedVariables false

/-- A text cut at the first place where x and y stand one behind the other. -/
def cut2 (x y : UInt8) : List UInt8 → Option (List UInt8 × List UInt8)
  | [] => none
  | a :: r => if a = x ∧ r.head? = some y then some ([], r.tail) else (cut2 x y r).map fun z => (a :: z.1, z.2)
theorem pre2 (x y a : UInt8) (r : List UInt8) : [x, y].isPrefixOf (a :: r) = decide (a = x ∧ r.head? = some y) := by
  cases r with
  | nil => simp [List.isPrefixOf]
  | cons b t =>
    simp only [List.isPrefixOf, List.head?_cons, Option.some.injEq, Bool.and_true]
    rw [Bool.eq_iff_iff, Bool.and_eq_true, beq_iff_eq, beq_iff_eq, decide_eq_true_eq]
    constructor
    · rintro ⟨rfl, rfl⟩; exact ⟨rfl, rfl⟩
    · rintro ⟨rfl, rfl⟩; exact ⟨rfl, rfl⟩
theorem cut2_ix (x y : UInt8) : ∀ l, (∀ p q, cut2 x y l = some (p, q) → l = p ++ x :: y :: q ∧ Lib.index l [x, y] = p.length) ∧ (cut2 x y l = none → Lib.index l [x, y] = -1) := by
  intro l
  induction l with
  | nil => exact ⟨(fun p q h => by cases h), fun _ => rfl⟩
  | cons a r ih =>
    by_cases h : a = x ∧ r.head? = some y
    · have e : cut2 x y (a :: r) = some ([], r.tail) := by rw [cut2, if_pos h]
      have hi : Lib.index (a :: r) [x, y] = 0 := by rw [Lib.index, pre2, if_pos (decide_eq_true h)]
      refine ⟨fun p q hp => ?_, fun hn => by rw [e] at hn; cases hn⟩
      rw [e] at hp
      injection hp with hp
      injection hp with h1 h2
      subst h1 h2
      refine ⟨?_, hi⟩
      cases r with
      | nil => exact absurd h.2 (by simp)
      | cons b t =>
        have := h.2
        simp at this
        rw [h.1, this]; rfl
    · have e : cut2 x y (a :: r) = (cut2 x y r).map fun z => (a :: z.1, z.2) := by rw [cut2, if_neg h]
      have hi : Lib.index (a :: r) [x, y] = if Lib.index r [x, y] == -1 then -1 else Lib.index r [x, y] + 1 := by
        rw [Lib.index, pre2, if_neg (by simpa using h)]
      refine ⟨fun p q hp => ?_, fun hn => ?_⟩
      · rw [e, Option.map_eq_some_iff] at hp
        obtain ⟨⟨p', q'⟩, h1, h2⟩ := hp
        injection h2 with h2 h3
        subst h2 h3
        obtain ⟨g1, g2⟩ := ih.1 p' q' h1
        refine ⟨by rw [List.cons_append, ← g1], ?_⟩
        rw [hi, g2, if_neg (by simp <;> omega)]
        simp
      · rw [e, Option.map_eq_none_iff] at hn
        rw [hi, ih.2 hn]; rfl
theorem cut_cut2 (x y : UInt8) (l : List UInt8) : Lib.cut l [x, y] = match cut2 x y l with | some (p, q) => (p, q, true) | none => (l, [], false) := by
  obtain ⟨h1, h2⟩ := cut2_ix x y l
  unfold Lib.cut
  cases e : cut2 x y l with
  | none => rw [h2 e, if_neg (by decide)]
  | some z =>
    obtain ⟨p, q⟩ := z
    obtain ⟨g1, g2⟩ := h1 p q e
    rw [g2, if_pos (by omega)]
    have e1 : ((p.length : Int)).toNat = p.length := by omega
    rw [e1]
    have e2 : l.take p.length = p := by rw [g1, List.take_left]
    have e3 : l.drop (p.length + [x, y].length) = q := by rw [g1, ← List.drop_drop, List.drop_left]; rfl
    rw [e2, e3]
/-- What stands behind a comment's end. -/
def skipC (l : List UInt8) : List UInt8 := match cut2 42 47 l with | some (_, q) => q | none => []
theorem cut2_len {x y : UInt8} {l p q : List UInt8} (h : cut2 x y l = some (p, q)) : l.length = p.length + 2 + q.length := by
  obtain ⟨g1, _⟩ := (cut2_ix x y l).1 p q h
  rw [g1]; simp; omega
theorem skipC_len (l : List UInt8) : (skipC l).length ≤ l.length := by
  unfold skipC
  cases e : cut2 42 47 l with
  | none => exact Nat.zero_le _
  | some z => obtain ⟨p, q⟩ := z; have := cut2_len e; simp only; omega
def bareF : Nat → List UInt8 → List UInt8
  | 0, _ => []
  | f + 1, l => match cut2 47 42 l with | none => l | some (p, q) => p ++ 32 :: bareF f (skipC q)
theorem bareF_fuel : ∀ (f g : Nat) (l : List UInt8), l.length < f → l.length < g → bareF f l = bareF g l := by
  intro f
  induction f with
  | zero => intro g l h; omega
  | succ f ih =>
    intro g l h1 h2
    cases g with
    | zero => omega
    | succ g =>
      unfold bareF
      cases e : cut2 47 42 l with
      | none => rfl
      | some z =>
        obtain ⟨p, q⟩ := z
        have := cut2_len e
        have h3 := skipC_len q
        simp only
        rw [ih g (skipC q) (by omega) (by omega)]
/-- A text with a blank for each comment. -/
def bareL (l : List UInt8) : List UInt8 := bareF (l.length + 1) l
theorem bareL_miss {l : List UInt8} (h : cut2 47 42 l = none) : bareL l = l := by unfold bareL bareF; rw [h]
theorem bareL_hit {l p q : List UInt8} (h : cut2 47 42 l = some (p, q)) : bareL l = p ++ 32 :: bareL (skipC q) := by
  have h1 := cut2_len h
  have h2 := skipC_len q
  unfold bareL
  conv => lhs; unfold bareF
  rw [h]
  simp only
  rw [bareF_fuel l.length ((skipC q).length + 1) (skipC q) (by omega) (by omega)]
theorem bareL_nil : bareL [] = [] := rfl
/-- Byte by byte. -/
theorem bareL_begin (r : List UInt8) (h : r.head? = some 42) : bareL (47 :: r) = 32 :: bareL (skipC r.tail) := by
  rw [bareL_hit (p := []) (q := r.tail) (by rw [cut2, if_pos ⟨rfl, h⟩])]
  rfl
theorem bareL_step (a : UInt8) (r : List UInt8) (h : ¬ (a = 47 ∧ r.head? = some 42)) : bareL (a :: r) = a :: bareL r := by
  cases e : cut2 47 42 r with
  | none => rw [bareL_miss e, bareL_miss (by rw [cut2, if_neg h, e]; rfl)]
  | some z =>
    obtain ⟨p, q⟩ := z
    rw [bareL_hit e, bareL_hit (p := a :: p) (q := q) (by rw [cut2, if_neg h, e]; rfl)]
    rfl
theorem skipC_end (r : List UInt8) (h : r.head? = some 47) : skipC (42 :: r) = r.tail := by
  unfold skipC
  rw [cut2, if_pos ⟨rfl, h⟩]
theorem skipC_step (a : UInt8) (r : List UInt8) (h : ¬ (a = 42 ∧ r.head? = some 47)) : skipC (a :: r) = skipC r := by
  unfold skipC
  rw [cut2, if_neg h]
  cases cut2 42 47 r with
  | none => rfl
  | some z => rfl
theorem bareL_len : ∀ (n : Nat) (l : List UInt8), l.length ≤ n → (bareL l).length ≤ l.length := by
  intro n
  induction n with
  | zero => intro l h; have : l = [] := List.eq_nil_of_length_eq_zero (by omega); subst this; exact Nat.le_refl _
  | succ n ih =>
    intro l h
    cases e : cut2 47 42 l with
    | none => rw [bareL_miss e]; exact Nat.le_refl _
    | some z =>
      obtain ⟨p, q⟩ := z
      have h1 := cut2_len e
      have h2 := skipC_len q
      have h3 := ih (skipC q) (by omega)
      rw [bareL_hit e]
      simp
      omega
def bareB (s : ByteArray) : ByteArray := bA (bareL s.data.toList)
theorem bareB_size (s : ByteArray) : (bareB s).size ≤ s.size := by
  unfold bareB
  rw [bA_size, ← data_len]
  exact bareL_len _ _ (Nat.le_refl _)
end Go.Proofs.YtnkmdmmlpidcmaaGreatDoor
