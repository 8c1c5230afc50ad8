/-
  Declarations read by the program; each theorem names its conditions.
-/
import Derived.Test.YtnkmdmmlpidcmaaDoorDeF
import Derived.WalkMore
import Derived.ScopeJumps
namespace Go.Proofs.YtnkmdmmlpidcmaaDoor
open Go.ChangeShapes Go.WideShapes Go.ChangeAt Go.RowKit
set_option linter.unusedVariables false

/-- A scope whose one label stands at its end. -/
theorem scope_fwd {c : Code} {Q : Exit → Act → World → Prop} {a : Act} {w : World} (l : Nat) (hf : findLabel c l = some Code.skip) (h : c.wp Tryd.prog (Exit.jump l (fun a w => Q .normal a w) Q) a w) : (Code.scope c).wp Tryd.prog Q a w :=
  wp_scope_jumps l (fun a w => Q .normal a w) (fun _ _ => 0) hf h (fun a w hJ => wp_skip hJ)
theorem jump_normal {l : Nat} {J : Act → World → Prop} {Q : Exit → Act → World → Prop} {a : Act} {w : World} : Exit.jump l J Q .normal a w = Q .normal a w := rfl
/-- The first twelve declarations. -/
def dcs (ps : List ByteArray) : List DD := (ps.filterMap declP).take 12
theorem dcs_none {l : List ByteArray} {x : ByteArray} (h : declP x = none) : dcs (l ++ [x]) = dcs l := by
  unfold dcs
  rw [List.filterMap_append]
  simp [h]
theorem dcs_full {l : List ByteArray} {x : ByteArray} (h : (dcs l).length = 12) : dcs (l ++ [x]) = dcs l := by
  unfold dcs at *
  rw [List.length_take] at h
  rw [List.filterMap_append, List.take_append_of_le_length (by omega)]
theorem dcs_more {l : List ByteArray} {x : ByteArray} {d : DD} (h : declP x = some d) (hl : (dcs l).length < 12) : dcs (l ++ [x]) = dcs l ++ [d] := by
  unfold dcs at *
  rw [List.length_take] at hl
  rw [List.filterMap_append]
  have e : List.filterMap declP [x] = [d] := by simp [h]
  rw [e, List.take_of_length_le (by simp; omega), List.take_of_length_le (by omega)]
theorem dcs_le (l : List ByteArray) : (dcs l).length ≤ 12 := by unfold dcs; rw [List.length_take]; omega
theorem take_at {l : List ByteArray} {k : Nat} (h : k < l.length) : l.take (k + 1) = l.take k ++ [strAt l k] := by
  rw [List.take_succ_eq_append_getElem h]
  simp [strAt, h]
def DeclsSays (s : ByteArray) (w w' : World) (e : Ending) : Prop := ∃ v, e = .returned v ∧ RowM 3 EDecl w' v (dcs (pcB 59 s)) (iv w w')
theorem pcsz (c : UInt8) : ∀ (l x : List UInt8), x ∈ pcs c l → x.length ≤ l.length := by
  intro l
  induction l with
  | nil => intro x hx; simp [pcs] at hx; subst hx; exact Nat.le_refl _
  | cons b l ih =>
    intro x hx
    rw [pcs] at hx
    split at hx
    · rcases List.mem_cons.1 hx with e | h
      · subst e; exact Nat.zero_le _
      · have := ih x h; simp; omega
    · cases hp : pcs c l with
      | nil => exact absurd hp (pcs_ne c l)
      | cons y r =>
        rw [hp] at hx ih
        rcases List.mem_cons.1 hx with e | h
        · subst e
          have := ih y List.mem_cons_self
          simp; omega
        · have := ih x (List.mem_cons_of_mem _ h)
          simp; omega
theorem pcB_size (c : UInt8) (s : ByteArray) (hs : s.size ≤ 1048576) (i : Nat) : (strAt (pcB c s) i).size ≤ 1048576 := by
  unfold strAt pcB
  by_cases h : i < (pcs c s.data.toList).length
  · have e : ((pcs c s.data.toList).map bA).getD i ⟨#[]⟩ = bA (pcs c s.data.toList)[i] := by simp [h]
    rw [e, bA_size]
    have := pcsz c s.data.toList _ (List.getElem_mem h)
    rw [data_len] at this
    omega
  · have e : ((pcs c s.data.toList).map bA).getD i ⟨#[]⟩ = ⟨#[]⟩ := by simp [h]
    rw [e]; exact Nat.zero_le _
theorem isplit (s : ByteArray) (c : UInt8) (w : World) (hs : s.size ≤ 1048576) :
    Calls Tryd.prog 54 #[.string s, .string ⟨#[c]⟩] w fun e w' => e = .returned (.slice (some ⟨w.heap.size, 0, none⟩) (pcB c s).length (pcB c s).length) ∧ Nw w w' ∧ LayS w' w.heap.size (pcB c s) (pcB c s).length := by
  go_enter Tryd.func54, Tryd.ntmps54
  go_wp2_with (go_at_call 92; refine (gsplit1 s c _ hs).mono ?_; rintro e w' ⟨rfl, k1, k2⟩)
  go_ret
  exact ⟨rfl, k1, k2⟩
set_option maxHeartbeats 8000000 in
theorem ideclsOf (s : ByteArray) (w : World) (hs : s.size ≤ 1048576) :
    Calls Tryd.prog 27 #[.string s] w fun e w' => DeclsSays s w w' e ∧ Nw w w' := by
  have HSZ : Hid (∀ i, (strAt (pcB 59 s) i).size ≤ 1048576) := fun i => pcB_size 59 s hs i
  have hpl : (pcB 59 s).length ≤ 1048577 := by rw [pcB_len]; have := count_le_size 59 s; omega
  have HI : Hid (Calls Tryd.prog 54 #[.string s, .string ⟨#[59]⟩] w fun e w' => e = .returned (.slice (some ⟨w.heap.size, 0, none⟩) (pcB 59 s).length (pcB 59 s).length) ∧ Nw w w' ∧ LayS w' w.heap.size (pcB 59 s) (pcB 59 s).length) := isplit s 59 w hs
  unfold DeclsSays
  generalize pcB 59 s = ps at *
  go_enter Tryd.func27, Tryd.ntmps27
  go_wp2_with fail
  refine Calls.mono HI.out ?_
  rintro e w1 ⟨rfl, k1, l1⟩
  have HN1 : Hid (Nw w w1) := k1
  have HL1 : Hid (LayS w1 w.heap.size ps ps.length) := l1
  clear HI k1 l1
  go_wp2
  go_loopw [3, 11] (fun v i wr => ∃ (k : Nat) (els : List (El DD)), k ≤ ps.length ∧ i = .int .i64 k ∧ RowO 50 3 EDecl wr w1.heap.size v els ∧ els.map El.x = dcs (ps.take k) ∧ Nw w1 wr) (fun _ i _ => ps.length - (intOf i).toNat)
  case atStart => exact ⟨0, [], Nat.zero_le _, rfl, RowO.nil _ _ _ _ _, rfl, Below.refl _ _⟩
  case round =>
    obtain ⟨k, els, hk, rfl, hro, hmx, hw⟩ := hrel
    have hel : els.length = (dcs (ps.take k)).length := by have := congrArg List.length hmx; simpa using this
    have h12 := dcs_le (ps.take k)
    obtain ⟨va, vc, hv⟩ := hro.slice
    subst hv
    have HR : Hid (RowO 50 3 EDecl wr w1.heap.size (.slice va els.length vc) els) := hro
    have HM : Hid (els.map El.x = dcs (ps.take k)) := hmx
    have HW : Hid (Nw w1 wr) := hw
    have HEL : Hid (els.length = (dcs (ps.take k)).length) := hel
    have hel12 : els.length ≤ 12 := by omega
    clear hro hmx hel h12
    by_cases hlt : k < ps.length
    · have q0 := (HL1.out.nw hw).2.1 k hlt
      have hgq := (HL1.out.nw hw).1
      have hz := HSZ.out k
      have HTK : Hid (ps.take (k + 1) = ps.take k ++ [strAt ps k]) := take_at hlt
      clear hw
      generalize strAt ps k = x at *
      have hkI : (k : Int) < (ps.length : Int) := by omega
      go_wp2_with fail
      refine scope_fwd 0 (by kernel_rfl) ?_
      go_wp2_with fail
      refine Calls.mono (ideclOf x _ hz) ?_
      rintro e w2 ⟨⟨d, hp, rfl⟩ | ⟨hp, tx, ty, tb, rfl⟩, k2⟩
      · by_cases h5 : els.length = 12
        · have HX : Hid (dcs (ps.take (k + 1)) = dcs (ps.take k)) := by show _ = _; rw [HTK.out]; exact dcs_full (by rw [← HEL.out]; exact h5)
          have HR2 : ∀ o, Hid (RowO 50 3 EDecl (w2.alloc o) w1.heap.size (.slice va els.length vc) els) := fun o => (HR.out.nw EDecl.kept k2).nw EDecl.kept ((Below.refl _ _).alloc (Nat.le_refl _) _)
          have HN2 : ∀ o, Hid (Nw w1 (w2.alloc o)) := fun o => Nw.trans (Nw.trans HW.out k2) ((Below.refl _ _).alloc (Nat.le_refl _) _)
          have g12 : ((els.length : Int) == 12) = true := by rw [h5]; rfl
          clear k2 q0 hp h5
          go_wp2
          apply wp_goto
          refine ⟨rfl, ?_⟩
          show Exit.inBlock 1 _ Exit.normal _ _
          go_wp2
          go_roundw
          case rel => exact ⟨k + 1, els, by omega, by go_num, (HR2 _).out, by rw [HX.out]; exact HM.out, (HN2 _).out⟩
          case measure => simp [intOf]; omega
        · have HX : Hid (dcs (ps.take (k + 1)) = dcs (ps.take k) ++ [d]) := by show _ = _; rw [HTK.out]; exact dcs_more hp (by rw [← HEL.out]; omega)
          have HK2 : Hid (Nw wr w2) := k2
          have g12 : ((els.length : Int) == 12) = false := by simp; omega
          have HL12 : Hid (els.length ≤ 10000000) := by show _ ≤ _; omega
          clear k2 q0 hp h5
          obtain ⟨dn, dv, di⟩ := d
          simp only
          have HNA : ∀ o1 o2, Hid (Nw wr ((w2.alloc o1).alloc o2)) := fun o1 o2 => Nw.trans HK2.out (((Below.refl _ _).alloc (Nat.le_refl _) _).alloc (by simp) _)
          have HEP : ∀ o1 o2, Hid (EDecl ((w2.alloc o1).alloc o2) [.string dn, .string dv, .bool di] ⟨dn, dv, di⟩ (iv wr ((w2.alloc o1).alloc o2))) := fun o1 o2 => rfl
          go_wp2_with (at_builtin; (refine wp_rw EDecl.kept Tryd.underlying22 Tryd.info50 rfl (by decide) (by decide) wr _ rfl _ _ rfl w1.heap.size _ els rfl HR.out (HNA _ _).out (Below.size HW.out) _ rfl ⟨dn, dv, di⟩ [.string dn, .string dv, .bool di] ?c1 rfl ?c2 (HEP _ _).out HL12.out ?_))
          case c1 =>
            intro j y hj
            rcases (show j = 0 ∨ j = 1 ∨ j = 2 ∨ 3 ≤ j by omega) with rfl | rfl | rfl | h
            · simp at hj; subst hj; simp
            · simp at hj; subst hj; simp
            · simp at hj; subst hj; simp
            · rw [List.getElem?_eq_none (by simpa using h)] at hj; cases hj
          case c2 =>
            intro y hy
            simp only [List.mem_cons, List.not_mem_nil, or_false] at hy
            rcases hy with rfl | rfl | rfl <;> rfl
          intro v' w' h1 h2
          have HN : Hid (Nw w1 w') := Below.trans (HW.out.trans (HNA _ _).out) (Ext.below h2 (fun g e => (HR.out.lt g e).1) (Nat.le_trans (Below.size HW.out) (Below.size (HNA _ _).out)))
          have H1 : Hid _ := h1
          clear h1 h2
          go_wp2
          apply wp_label
          show Exit.inBlock 1 _ Exit.normal _ _
          go_wp2
          go_roundw
          case rel => exact ⟨k + 1, _, by omega, by go_num, H1.out, by rw [HX.out, List.map_append, HM.out]; rfl, HN.out⟩
          case measure => simp [intOf]; omega
      · have HX : Hid (dcs (ps.take (k + 1)) = dcs (ps.take k)) := by show _ = _; rw [HTK.out]; exact dcs_none hp
        have HR2 : ∀ o, Hid (RowO 50 3 EDecl (w2.alloc o) w1.heap.size (.slice va els.length vc) els) := fun o => (HR.out.nw EDecl.kept k2).nw EDecl.kept ((Below.refl _ _).alloc (Nat.le_refl _) _)
        have HN2 : ∀ o, Hid (Nw w1 (w2.alloc o)) := fun o => Nw.trans (Nw.trans HW.out k2) ((Below.refl _ _).alloc (Nat.le_refl _) _)
        clear k2 q0 hp
        go_wp2
        apply wp_goto
        refine ⟨rfl, ?_⟩
        show Exit.inBlock 1 _ Exit.normal _ _
        go_wp2
        go_roundw
        case rel => exact ⟨k + 1, els, by omega, by go_num, (HR2 _).out, by rw [HX.out]; exact HM.out, (HN2 _).out⟩
        case measure => simp [intOf]; omega
    · have hk2 : k = ps.length := by omega
      have HE : Hid (els.map El.x = dcs ps) := by show _ = _; rw [HM.out, hk2, List.take_length]
      have hkn : ¬ ((k : Int) < (ps.length : Int)) := by omega
      clear hk2 hw
      go_wp2
      go_ret
      refine ⟨⟨_, rfl, ?_⟩, Nw.trans HN1.out HW.out⟩
      rw [← HE.out]
      exact RowO.row HR.out (fun b h1 h2 => ⟨Nat.le_trans (Below.size HN1.out) h1, h2⟩)
end Go.Proofs.YtnkmdmmlpidcmaaDoor
