/-
  The text of a sheet: pure facts; each theorem names its conditions.
  Declarations read by the program; each theorem names its conditions.
  Rules read from a text, on lists of bytes: pure facts; each theorem names its conditions.
  A declaration that is told is read back: pure facts; each theorem names its conditions.
-/
import Derived.Test.YtnkmdmmlpidcmaaGreatDoorJAR
import Derived.Test.YtnkmdmmlpidcmaaGreatDoorJAJ
import Derived.Test.YtnkmdmmlpidcmaaGreatDoorJAT
import Derived.Test.YtnkmdmmlpidcmaaGreatDoorJAQ
import Derived.WalkMore
import Derived.ScopeJumps
import Derived.Test.YtnkmdmmlpidcmaaGreatDoorJAI
namespace Go.Proofs.YtnkmdmmlpidcmaaGreatDoor
open Go.ChangeShapes Go.WideShapes Go.ChangeAt Go.RowKit
set_option linter.unusedVariables false

theorem app_size (a b : ByteArray) : (a ++ b).size = a.size + b.size := ByteArray.size_append
/-- A declaration that can be told. -/
def nameOk (s : ByteArray) : Bool := wordB s && decide (lowL s.data.toList = s.data.toList)
def wholeOk (s : ByteArray) : Bool := decide (tmL s.data.toList = s.data.toList) && !badL s.data.toList
def declB (d : DD) : Bool := nameOk d.nm && wholeOk d.vl && fit60 d.vl.data.toList
def impT : ByteArray := ⟨#[32, 33, 105, 109, 112, 111, 114, 116, 97, 110, 116]⟩
def headD (d : DD) : ByteArray := d.nm ++ ((⟨#[58]⟩ : ByteArray) ++ d.vl)
def declT (d : DD) : ByteArray := (if d.im then headD d ++ impT else headD d) ++ (⟨#[59]⟩ : ByteArray)
def declsT (t : ByteArray) (l : List DD) : Nat → ByteArray
  | 0 => t
  | k + 1 => declsT t l k ++ declT (declAt l k)
def commaT (t : ByteArray) (k : Nat) : ByteArray := if 0 < k then t ++ (⟨#[44]⟩ : ByteArray) else t
def selsT (t : ByteArray) (l : List (List PD)) : Nat → ByteArray
  | 0 => t
  | k + 1 => commaT (selsT t l k) k ++ selT (selAt l k) (selAt l k).length
def ruleT (t : ByteArray) (r : RD) : ByteArray := declsT (selsT t r.sels r.sels.length ++ (⟨#[123]⟩ : ByteArray)) r.decls r.decls.length ++ (⟨#[125]⟩ : ByteArray)
def sheetT (l : List RD) : Nat → ByteArray
  | 0 => ⟨#[]⟩
  | k + 1 => ruleT (sheetT l k) (ruleAt l k)
def ruleB (r : RD) : Bool := (decide (0 < r.sels.length) && decide (r.decls.length ≤ 12)) && (r.sels.all selB && r.decls.all declB)
def RsTo (l : List RD) (k : Nat) : Prop := ∀ i, i < k → ruleB (ruleAt l i) = true
/-- What SheetText answers. -/
def sheetOk (l : List RD) : Bool := (decide (l.length ≤ 30) && l.all ruleB) && decide ((sheetT l l.length).size ≤ 1500)
def sheetAns (l : List RD) : Value := if sheetOk l then .tuple #[.string (sheetT l l.length), .bool true] else .tuple #[.string ⟨#[]⟩, .bool false]
theorem sheetAns_yes {l : List RD} (h : sheetOk l = true) : sheetAns l = .tuple #[.string (sheetT l l.length), .bool true] := by unfold sheetAns; rw [h]; rfl
theorem sheetAns_no {l : List RD} (h : sheetOk l = false) : sheetAns l = .tuple #[.string ⟨#[]⟩, .bool false] := by unfold sheetAns; rw [h]; rfl
/-! ### Sizes -/
theorem clsTo_bulk (h : ByteArray) (l : List ByteArray) : ∀ k, k ≤ l.length → (clsTo h l k).size = h.size + k + bulk1 (l.take k)
  | 0, _ => by simp [clsTo, bulk1]
  | k + 1, hk => by
    have e : (⟨#[46]⟩ : ByteArray).size = 1 := rfl
    rw [clsTo, app_size, app_size, clsTo_bulk h l k (by omega), bulk1_step l k (by omega), e]
    omega
theorem partT_bulk (p : PD) : (partT p).size ≤ bulkP p + 1 := by
  unfold partT bulkP
  rw [clsTo_bulk _ _ _ (Nat.le_refl _), List.take_length]
  have : (headT p).size ≤ p.ty.size + p.id.size + 1 := by
    unfold headT
    have e : (⟨#[35]⟩ : ByteArray).size = 1 := rfl
    split
    · omega
    · rw [app_size, app_size, e]; omega
  omega
theorem commaT_size (t : ByteArray) (k : Nat) : (commaT t k).size ≤ t.size + 1 ∧ t.size ≤ (commaT t k).size := by
  unfold commaT
  have e : (⟨#[44]⟩ : ByteArray).size = 1 := rfl
  split
  · rw [app_size, e]; omega
  · omega
theorem selT_bulk (l : List PD) : ∀ k, k ≤ l.length → (selT l k).size ≤ bulkPs (l.take k) + 2 * k
  | 0, _ => by show (⟨#[]⟩ : ByteArray).size ≤ _; exact Nat.zero_le _
  | k + 1, hk => by
    have h1 := selT_bulk l k (by omega)
    have h2 := partT_bulk (partAt l k)
    have h3 := sepT_size (selT l k) k
    rw [selT, app_size, bulkPs_step l k (by omega)]
    omega
theorem selT_x (l : List PD) : (selT l l.length).size ≤ 2 * bulkX l := by
  have := selT_bulk l l.length (Nat.le_refl _)
  rw [List.take_length] at this
  unfold bulkX
  omega
theorem selsT_bulk (t : ByteArray) (l : List (List PD)) : ∀ k, k ≤ l.length → (selsT t l k).size ≤ t.size + 2 * bulkSS (l.take k) + k ∧ t.size ≤ (selsT t l k).size
  | 0, _ => by simp [selsT, bulkSS]
  | k + 1, hk => by
    have h1 := selsT_bulk t l k (by omega)
    have h2 := selT_x (selAt l k)
    have h3 := commaT_size (selsT t l k) k
    rw [selsT, app_size, bulkSS_step l k (by omega)]
    omega
theorem declT_size (d : DD) : (declT d).size ≤ bulkD d + 13 := by
  unfold declT headD bulkD
  have e1 : (⟨#[58]⟩ : ByteArray).size = 1 := rfl
  have e2 : impT.size = 11 := rfl
  have e3 : (⟨#[59]⟩ : ByteArray).size = 1 := rfl
  rw [app_size, e3]
  split
  · rw [app_size, app_size, app_size, e1, e2]; omega
  · rw [app_size, app_size, e1]; omega
theorem declsT_bulk (t : ByteArray) (l : List DD) : ∀ k, k ≤ l.length → (declsT t l k).size ≤ t.size + bulkDs (l.take k) + 13 * k ∧ t.size ≤ (declsT t l k).size
  | 0, _ => by simp [declsT, bulkDs]
  | k + 1, hk => by
    have h1 := declsT_bulk t l k (by omega)
    have h2 := declT_size (declAt l k)
    rw [declsT, app_size, bulkDs_step l k (by omega)]
    omega
theorem ruleT_bulk (t : ByteArray) (r : RD) (h : r.decls.length ≤ 12) : (ruleT t r).size ≤ t.size + 2 * bulkR r + 158 ∧ t.size ≤ (ruleT t r).size := by
  have e1 : (⟨#[123]⟩ : ByteArray).size = 1 := rfl
  have e2 : (⟨#[125]⟩ : ByteArray).size = 1 := rfl
  have h1 := selsT_bulk t r.sels r.sels.length (Nat.le_refl _)
  have h2 := declsT_bulk (selsT t r.sels r.sels.length ++ (⟨#[123]⟩ : ByteArray)) r.decls r.decls.length (Nat.le_refl _)
  rw [List.take_length] at h1 h2
  rw [app_size, e1] at h2
  unfold ruleT bulkR
  rw [app_size, e2]
  omega
theorem ruleB_few {r : RD} (h : ruleB r = true) : r.decls.length ≤ 12 := by
  unfold ruleB at h
  simp only [Bool.and_eq_true, decide_eq_true_eq] at h
  exact h.1.2
theorem sheetT_bulk (l : List RD) : ∀ k, k ≤ l.length → RsTo l k → (sheetT l k).size ≤ 2 * bulkRs (l.take k) + 158 * k
  | 0, _, _ => by show (⟨#[]⟩ : ByteArray).size ≤ _; exact Nat.zero_le _
  | k + 1, hk, hr => by
    have h1 := sheetT_bulk l k (by omega) (fun i hi => hr i (by omega))
    have h2 := ruleT_bulk (sheetT l k) (ruleAt l k) (ruleB_few (hr k (by omega)))
    rw [sheetT, bulkRs_step l k (by omega)]
    omega
theorem rs_all {l : List RD} (h : RsTo l l.length) : l.all ruleB = true := by
  rw [List.all_eq_true]
  intro r hr
  obtain ⟨i, hi, rfl⟩ := List.getElem_of_mem hr
  have := h i hi
  rwa [show ruleAt l i = l[i] by simp [ruleAt, hi]] at this
theorem rs_bad {l : List RD} {k : Nat} (hk : k < l.length) (h : ruleB (ruleAt l k) = false) : sheetOk l = false := by
  have : l.all ruleB = false := by
    rw [List.all_eq_false]
    refine ⟨l[k], List.getElem_mem hk, ?_⟩
    rw [show ruleAt l k = l[k] by simp [ruleAt, hk]] at h
    rw [h]; simp
  unfold sheetOk
  rw [this]
  simp
theorem RsTo.step {l : List RD} {k : Nat} (h : RsTo l k) (e : ruleB (ruleAt l k) = true) : RsTo l (k + 1) := by
  intro i hi
  by_cases c : i = k
  · subst c; exact e
  · exact h i (by omega)
end Go.Proofs.YtnkmdmmlpidcmaaGreatDoor
namespace Go.Proofs.YtnkmdmmlpidcmaaGreatDoor
open Go.ChangeShapes Go.WideShapes Go.ChangeAt Go.RowKit
set_option linter.unusedVariables false

/-- A scope whose one label stands at its end. -/
theorem scope_fwd {c : Go.Code} {Q : Exit → Act → World → Prop} {a : Act} {w : World} (l : Nat) (hf : findLabel c l = some Code.skip) (h : c.wp Tryz.prog (Exit.jump l (fun a w => Q .normal a w) Q) a w) : (Code.scope c).wp Tryz.prog Q a w :=
  wp_scope_jumps l (fun a w => Q .normal a w) (fun _ _ => 0) hf h (fun a w hJ => wp_skip hJ)
theorem jump_normal {l : Nat} {J : Act → World → Prop} {Q : Exit → Act → World → Prop} {a : Act} {w : World} : Exit.jump l J Q .normal a w = Q .normal a w := rfl
/-- The first twelve declarations. -/
def dcs (ps : List ByteArray) : List DD := (ps.filterMap declP).take 12
theorem dcs_none {l : List ByteArray} {x : ByteArray} (h : declP x = none) : dcs (l ++ [x]) = dcs l := by
  unfold dcs
  rw [List.filterMap_append]
  simp [h]
theorem dcs_full {l : List ByteArray} {x : ByteArray} (h : (dcs l).length = 12) : dcs (l ++ [x]) = dcs l := by
  unfold dcs at *
  rw [List.length_take] at h
  rw [List.filterMap_append, List.take_append_of_le_length (by omega)]
theorem dcs_more {l : List ByteArray} {x : ByteArray} {d : DD} (h : declP x = some d) (hl : (dcs l).length < 12) : dcs (l ++ [x]) = dcs l ++ [d] := by
  unfold dcs at *
  rw [List.length_take] at hl
  rw [List.filterMap_append]
  have e : List.filterMap declP [x] = [d] := by simp [h]
  rw [e, List.take_of_length_le (by simp; omega), List.take_of_length_le (by omega)]
theorem dcs_le (l : List ByteArray) : (dcs l).length ≤ 12 := by unfold dcs; rw [List.length_take]; omega
theorem take_at {l : List ByteArray} {k : Nat} (h : k < l.length) : l.take (k + 1) = l.take k ++ [strAt l k] := by
  rw [List.take_succ_eq_append_getElem h]
  simp [strAt, h]
def DeclsSays (s : ByteArray) (w w' : World) (e : Ending) : Prop := ∃ v, e = .returned v ∧ RowM 3 EDecl w' v (dcs (pcB 59 s)) (iv w w')
theorem pcsz (c : UInt8) : ∀ (l x : List UInt8), x ∈ pcs c l → x.length ≤ l.length := by
  intro l
  induction l with
  | nil => intro x hx; simp [pcs] at hx; subst hx; exact Nat.le_refl _
  | cons b l ih =>
    intro x hx
    rw [pcs] at hx
    split at hx
    · rcases List.mem_cons.1 hx with e | h
      · subst e; exact Nat.zero_le _
      · have := ih x h; simp; omega
    · cases hp : pcs c l with
      | nil => exact absurd hp (pcs_ne c l)
      | cons y r =>
        rw [hp] at hx ih
        rcases List.mem_cons.1 hx with e | h
        · subst e
          have := ih y List.mem_cons_self
          simp; omega
        · have := ih x (List.mem_cons_of_mem _ h)
          simp; omega
theorem pcB_size (c : UInt8) (s : ByteArray) (hs : s.size ≤ 1048576) (i : Nat) : (strAt (pcB c s) i).size ≤ 1048576 := by
  unfold strAt pcB
  by_cases h : i < (pcs c s.data.toList).length
  · have e : ((pcs c s.data.toList).map bA).getD i ⟨#[]⟩ = bA (pcs c s.data.toList)[i] := by simp [h]
    rw [e, bA_size]
    have := pcsz c s.data.toList _ (List.getElem_mem h)
    rw [data_len] at this
    omega
  · have e : ((pcs c s.data.toList).map bA).getD i ⟨#[]⟩ = ⟨#[]⟩ := by simp [h]
    rw [e]; exact Nat.zero_le _
theorem isplit (s : ByteArray) (c : UInt8) (w : World) (hs : s.size ≤ 1048576) :
    Calls Tryz.prog 76 #[.string s, .string ⟨#[c]⟩] w fun e w' => e = .returned (.slice (some ⟨w.heap.size, 0, none⟩) (pcB c s).length (pcB c s).length) ∧ Nw w w' ∧ LayS w' w.heap.size (pcB c s) (pcB c s).length := by
  go_enter Tryz.func76, Tryz.ntmps76
  go_wp2_with (go_at_call 111; refine (gsplit1 s c _ hs).mono ?_; rintro e w' ⟨rfl, k1, k2⟩)
  go_ret
  exact ⟨rfl, k1, k2⟩
set_option maxHeartbeats 8000000 in
theorem ideclsOf (s : ByteArray) (w : World) (hs : s.size ≤ 1048576) :
    Calls Tryz.prog 69 #[.string s] w fun e w' => DeclsSays s w w' e ∧ Nw w w' := by
  have HSZ : Hid (∀ i, (strAt (pcB 59 s) i).size ≤ 1048576) := fun i => pcB_size 59 s hs i
  have hpl : (pcB 59 s).length ≤ 1048577 := by rw [pcB_len]; have := count_le_size 59 s; omega
  have HI : Hid (Calls Tryz.prog 76 #[.string s, .string ⟨#[59]⟩] w fun e w' => e = .returned (.slice (some ⟨w.heap.size, 0, none⟩) (pcB 59 s).length (pcB 59 s).length) ∧ Nw w w' ∧ LayS w' w.heap.size (pcB 59 s) (pcB 59 s).length) := isplit s 59 w hs
  unfold DeclsSays
  generalize pcB 59 s = ps at *
  go_enter Tryz.func69, Tryz.ntmps69
  go_wp2_with fail
  refine Calls.mono HI.out ?_
  rintro e w1 ⟨rfl, k1, l1⟩
  have HN1 : Hid (Nw w w1) := k1
  have HL1 : Hid (LayS w1 w.heap.size ps ps.length) := l1
  clear HI k1 l1
  go_wp2
  go_loopw [3, 11] (fun v i wr => ∃ (k : Nat) (els : List (El DD)), k ≤ ps.length ∧ i = .int .i64 k ∧ RowO 36 3 EDecl wr w1.heap.size v els ∧ els.map El.x = dcs (ps.take k) ∧ Nw w1 wr) (fun _ i _ => ps.length - (intOf i).toNat)
  case atStart => exact ⟨0, [], Nat.zero_le _, rfl, RowO.nil _ _ _ _ _, rfl, Below.refl _ _⟩
  case round =>
    obtain ⟨k, els, hk, rfl, hro, hmx, hw⟩ := hrel
    have hel : els.length = (dcs (ps.take k)).length := by have := congrArg List.length hmx; simpa using this
    have h12 := dcs_le (ps.take k)
    obtain ⟨va, vc, hv⟩ := hro.slice
    subst hv
    have HR : Hid (RowO 36 3 EDecl wr w1.heap.size (.slice va els.length vc) els) := hro
    have HM : Hid (els.map El.x = dcs (ps.take k)) := hmx
    have HW : Hid (Nw w1 wr) := hw
    have HEL : Hid (els.length = (dcs (ps.take k)).length) := hel
    have hel12 : els.length ≤ 12 := by omega
    clear hro hmx hel h12
    by_cases hlt : k < ps.length
    · have q0 := (HL1.out.nw hw).2.1 k hlt
      have hgq := (HL1.out.nw hw).1
      have hz := HSZ.out k
      have HTK : Hid (ps.take (k + 1) = ps.take k ++ [strAt ps k]) := take_at hlt
      clear hw
      generalize strAt ps k = x at *
      have hkI : (k : Int) < (ps.length : Int) := by omega
      go_wp2_with fail
      refine scope_fwd 0 (by kernel_rfl) ?_
      go_wp2_with fail
      refine Calls.mono (ideclOf x _ hz) ?_
      rintro e w2 ⟨⟨d, hp, rfl⟩ | ⟨hp, tx, ty, tb, rfl⟩, k2⟩
      · by_cases h5 : els.length = 12
        · have HX : Hid (dcs (ps.take (k + 1)) = dcs (ps.take k)) := by show _ = _; rw [HTK.out]; exact dcs_full (by rw [← HEL.out]; exact h5)
          have HR2 : ∀ o, Hid (RowO 36 3 EDecl (w2.alloc o) w1.heap.size (.slice va els.length vc) els) := fun o => (HR.out.nw EDecl.kept k2).nw EDecl.kept ((Below.refl _ _).alloc (Nat.le_refl _) _)
          have HN2 : ∀ o, Hid (Nw w1 (w2.alloc o)) := fun o => Nw.trans (Nw.trans HW.out k2) ((Below.refl _ _).alloc (Nat.le_refl _) _)
          have g12 : ((els.length : Int) == 12) = true := by rw [h5]; rfl
          clear k2 q0 hp h5
          go_wp2
          apply wp_goto
          refine ⟨rfl, ?_⟩
          show Exit.inBlock 1 _ Exit.normal _ _
          go_wp2
          go_roundw
          case rel => exact ⟨k + 1, els, by omega, by go_num, (HR2 _).out, by rw [HX.out]; exact HM.out, (HN2 _).out⟩
          case measure => simp [intOf]; omega
        · have HX : Hid (dcs (ps.take (k + 1)) = dcs (ps.take k) ++ [d]) := by show _ = _; rw [HTK.out]; exact dcs_more hp (by rw [← HEL.out]; omega)
          have HK2 : Hid (Nw wr w2) := k2
          have g12 : ((els.length : Int) == 12) = false := by simp; omega
          have HL12 : Hid (els.length ≤ 10000000) := by show _ ≤ _; omega
          clear k2 q0 hp h5
          obtain ⟨dn, dv, di⟩ := d
          simp only
          have HNA : ∀ o1 o2, Hid (Nw wr ((w2.alloc o1).alloc o2)) := fun o1 o2 => Nw.trans HK2.out (((Below.refl _ _).alloc (Nat.le_refl _) _).alloc (by simp) _)
          have HEP : ∀ o1 o2, Hid (EDecl ((w2.alloc o1).alloc o2) [.string dn, .string dv, .bool di] ⟨dn, dv, di⟩ (iv wr ((w2.alloc o1).alloc o2))) := fun o1 o2 => rfl
          go_wp2_with (at_builtin; (refine wp_rw EDecl.kept Tryz.underlying30 Tryz.info36 rfl (by decide) (by decide) wr _ rfl _ _ rfl w1.heap.size _ els rfl HR.out (HNA _ _).out (Below.size HW.out) _ rfl ⟨dn, dv, di⟩ [.string dn, .string dv, .bool di] ?c1 rfl ?c2 (HEP _ _).out HL12.out ?_))
          case c1 =>
            intro j y hj
            rcases (show j = 0 ∨ j = 1 ∨ j = 2 ∨ 3 ≤ j by omega) with rfl | rfl | rfl | h
            · simp at hj; subst hj; simp
            · simp at hj; subst hj; simp
            · simp at hj; subst hj; simp
            · rw [List.getElem?_eq_none (by simpa using h)] at hj; cases hj
          case c2 =>
            intro y hy
            simp only [List.mem_cons, List.not_mem_nil, or_false] at hy
            rcases hy with rfl | rfl | rfl <;> rfl
          intro v' w' h1 h2
          have HN : Hid (Nw w1 w') := Below.trans (HW.out.trans (HNA _ _).out) (Ext.below h2 (fun g e => (HR.out.lt g e).1) (Nat.le_trans (Below.size HW.out) (Below.size (HNA _ _).out)))
          have H1 : Hid _ := h1
          clear h1 h2
          go_wp2
          apply wp_label
          show Exit.inBlock 1 _ Exit.normal _ _
          go_wp2
          go_roundw
          case rel => exact ⟨k + 1, _, by omega, by go_num, H1.out, by rw [HX.out, List.map_append, HM.out]; rfl, HN.out⟩
          case measure => simp [intOf]; omega
      · have HX : Hid (dcs (ps.take (k + 1)) = dcs (ps.take k)) := by show _ = _; rw [HTK.out]; exact dcs_none hp
        have HR2 : ∀ o, Hid (RowO 36 3 EDecl (w2.alloc o) w1.heap.size (.slice va els.length vc) els) := fun o => (HR.out.nw EDecl.kept k2).nw EDecl.kept ((Below.refl _ _).alloc (Nat.le_refl _) _)
        have HN2 : ∀ o, Hid (Nw w1 (w2.alloc o)) := fun o => Nw.trans (Nw.trans HW.out k2) ((Below.refl _ _).alloc (Nat.le_refl _) _)
        clear k2 q0 hp
        go_wp2
        apply wp_goto
        refine ⟨rfl, ?_⟩
        show Exit.inBlock 1 _ Exit.normal _ _
        go_wp2
        go_roundw
        case rel => exact ⟨k + 1, els, by omega, by go_num, (HR2 _).out, by rw [HX.out]; exact HM.out, (HN2 _).out⟩
        case measure => simp [intOf]; omega
    · have hk2 : k = ps.length := by omega
      have HE : Hid (els.map El.x = dcs ps) := by show _ = _; rw [HM.out, hk2, List.take_length]
      have hkn : ¬ ((k : Int) < (ps.length : Int)) := by omega
      clear hk2 hw
      go_wp2
      go_ret
      refine ⟨⟨_, rfl, ?_⟩, Nw.trans HN1.out HW.out⟩
      rw [← HE.out]
      exact RowO.row HR.out (fun b h1 h2 => ⟨Nat.le_trans (Below.size HN1.out) h1, h2⟩)
end Go.Proofs.YtnkmdmmlpidcmaaGreatDoor
namespace Go.Proofs.YtnkmdmmlpidcmaaGreatDoor
open Go.ChangeShapes Go.WideShapes Go.ChangeAt Go.RowKit
set_option linter.unusedVariables false

def selsW (s : ByteArray) : List (List PD) := (pcB 44 s).map selL
def selsOk (s : ByteArray) : Bool := (pcB 44 s).all selOk
/-- The text ahead of a rule's bracket, what is inside, and what comes behind. -/
def aheadL (l : List UInt8) : List UInt8 := l.take (brk 123 l)
def behindL (l : List UInt8) : List UInt8 := l.drop (brk 123 l + 1)
def insideL (l : List UInt8) : List UInt8 := (behindL l).take (brk 125 (behindL l))
def restL (l : List UInt8) : List UInt8 := (behindL l).drop (brk 125 (behindL l) + 1)
def ruleL (l : List UInt8) : RD := ⟨selsW (bA (aheadL l)), dcs (pcB 59 (bA (insideL l)))⟩
def oneR (l : List UInt8) : List RD := if selsOk (bA (aheadL l)) then [ruleL l] else []
def rulesF : Nat → List UInt8 → List RD
  | 0, _ => []
  | f + 1, l => if brk 123 l < l.length then oneR l ++ rulesF f (restL l) else []
theorem restL_len {l : List UInt8} (h : brk 123 l < l.length) : (restL l).length < l.length := by
  unfold restL behindL
  rw [List.length_drop, List.length_drop]
  omega
theorem rulesF_fuel : ∀ (f g : Nat) (l : List UInt8), l.length < f → l.length < g → rulesF f l = rulesF g l := by
  intro f
  induction f with
  | zero => intro g l h; omega
  | succ f ih =>
    intro g l h1 h2
    cases g with
    | zero => omega
    | succ g =>
      unfold rulesF
      by_cases h : brk 123 l < l.length
      · rw [if_pos h, if_pos h]
        have := restL_len h
        rw [ih g (restL l) (by omega) (by omega)]
      · rw [if_neg h, if_neg h]
def rulesA (l : List UInt8) : List RD := rulesF (l.length + 1) l
theorem rulesA_miss {l : List UInt8} (h : ¬ brk 123 l < l.length) : rulesA l = [] := by unfold rulesA rulesF; rw [if_neg h]
theorem rulesA_hit {l : List UInt8} (h : brk 123 l < l.length) : rulesA l = oneR l ++ rulesA (restL l) := by
  have := restL_len h
  unfold rulesA
  conv => lhs; unfold rulesF
  rw [if_pos h, rulesF_fuel l.length ((restL l).length + 1) (restL l) (by omega) (by omega)]
/-- The first thirty rules. -/
def rules30 (s : ByteArray) : List RD := (rulesA s.data.toList).take 30
/-- What has been read and what is left. -/
def RuSt (s : ByteArray) (r : List UInt8) (xs : List RD) : Prop := ∃ acc, rulesA s.data.toList = acc ++ rulesA r ∧ xs = acc.take 30
theorem RuSt.start (s : ByteArray) : RuSt s s.data.toList [] := ⟨[], rfl, rfl⟩
theorem RuSt.fin {s : ByteArray} {r : List UInt8} {xs : List RD} (h : RuSt s r xs) (hm : ¬ brk 123 r < r.length) : xs = rules30 s := by
  obtain ⟨acc, h1, h2⟩ := h
  rw [rulesA_miss hm, List.append_nil] at h1
  unfold rules30
  rw [h1]; exact h2
theorem RuSt.le {s : ByteArray} {r : List UInt8} {xs : List RD} (h : RuSt s r xs) : xs.length ≤ 30 := by
  obtain ⟨acc, _, h2⟩ := h
  rw [h2, List.length_take]; omega
theorem RuSt.bad {s : ByteArray} {r : List UInt8} {xs : List RD} (h : RuSt s r xs) (hm : brk 123 r < r.length) (hb : selsOk (bA (aheadL r)) = false) : RuSt s (restL r) xs := by
  obtain ⟨acc, h1, h2⟩ := h
  refine ⟨acc, ?_, h2⟩
  rw [h1, rulesA_hit hm]
  unfold oneR
  rw [hb]; rfl
theorem RuSt.full {s : ByteArray} {r : List UInt8} {xs : List RD} (h : RuSt s r xs) (hm : brk 123 r < r.length) (hx : xs.length = 30) : RuSt s (restL r) xs := by
  obtain ⟨acc, h1, h2⟩ := h
  refine ⟨acc ++ oneR r, by rw [h1, rulesA_hit hm, List.append_assoc], ?_⟩
  have : 30 ≤ acc.length := by rw [h2, List.length_take] at hx; omega
  rw [List.take_append_of_le_length this]; exact h2
theorem RuSt.more {s : ByteArray} {r : List UInt8} {xs : List RD} (h : RuSt s r xs) (hm : brk 123 r < r.length) (hb : selsOk (bA (aheadL r)) = true) (hx : xs.length < 30) : RuSt s (restL r) (xs ++ [ruleL r]) := by
  obtain ⟨acc, h1, h2⟩ := h
  refine ⟨acc ++ [ruleL r], ?_, ?_⟩
  · rw [h1, rulesA_hit hm]
    unfold oneR
    rw [hb, List.append_assoc]; rfl
  · have : acc.length < 30 := by rw [h2, List.length_take] at hx; omega
    rw [List.take_of_length_le (by simp; omega), h2, List.take_of_length_le (by omega)]
end Go.Proofs.YtnkmdmmlpidcmaaGreatDoor
namespace Go.Proofs.YtnkmdmmlpidcmaaGreatDoor
open Go.ChangeShapes Go.WideShapes Go.ChangeAt Go.RowKit
set_option linter.unusedVariables false

/-- A declaration's text, without its end. -/
def bodyL (d : DD) : List UInt8 := d.nm.data.toList ++ (58 :: (d.vl.data.toList ++ if d.im then 32 :: markL10 else []))
theorem declB_parts {d : DD} (h : declB d = true) : wordL d.nm.data.toList = true ∧ lowL d.nm.data.toList = d.nm.data.toList ∧ tmL d.vl.data.toList = d.vl.data.toList ∧ badL d.vl.data.toList = false ∧ fit60 d.vl.data.toList = true := by
  unfold declB nameOk wholeOk at h
  simp only [Bool.and_eq_true, decide_eq_true_eq, Bool.not_eq_true'] at h
  obtain ⟨⟨⟨h1, h2⟩, h3, h4⟩, h5⟩ := h
  exact ⟨by rw [← wordB_L]; exact h1, h2, h3, h4, h5⟩
theorem bad_not {l : List UInt8} (h : badL l = false) {b : UInt8} (hb : b ∈ l) : b ≠ 59 ∧ b ≠ 123 ∧ b ≠ 125 ∧ b ≠ 47 ∧ b ≠ 33 := by
  unfold badL at h
  have := List.any_eq_false.1 h b hb
  unfold badB badN at this
  simp only [decide_eq_true_eq] at this
  refine ⟨?_, ?_, ?_, ?_, ?_⟩ <;> (rintro rfl; exact this (by decide))
theorem fit_ne {l : List UInt8} (h : fit60 l = true) : l ≠ [] := by
  unfold fit60 at h
  rintro rfl
  simp at h
theorem mark_not {l : List UInt8} (h : badL l = false) : markL10.isSuffixOf l = false := by
  cases e : markL10.isSuffixOf l with
  | false => rfl
  | true =>
    have h1 := List.isSuffixOf_iff_suffix.1 e
    have h2 : (33 : UInt8) ∈ l := h1.subset (by decide)
    exact absurd rfl (bad_not h h2).2.2.2.2
theorem neat_self {l : List UInt8} (h : tmL l = l) : Neat l := by
  have := neat_tm l
  rwa [h] at this
theorem valS_plain {l : List UInt8} (h : badL l = false) : valS l = (l, false) := by unfold valS; rw [mark_not h]; rfl
theorem tm_marked {l : List UInt8} (h : tmL l = l) (hn : l ≠ []) : tmL (l ++ 32 :: markL10) = l ++ 32 :: markL10 := by
  have hN := neat_self h
  have hm : Neat (l ++ 32 :: markL10) := by
    constructor
    · intro b r e
      cases l with
      | nil => exact absurd rfl hn
      | cons c t =>
        injection e with e1 e2
        subst e1
        exact hN.1 c t rfl
    · intro b r e
      have e2 : (l ++ 32 :: markL10).getLast? = some b := by rw [e]; simp
      have e3 : (l ++ 32 :: markL10).getLast? = some 116 := by
        rw [List.getLast?_append]; rfl
      rw [e3] at e2
      injection e2 with e2
      subst e2
      decide
  have := tmL_of (a := []) (b := []) rfl rfl hm
  simpa using this
theorem valS_marked {l : List UInt8} (h : tmL l = l) : valS (l ++ 32 :: markL10) = (l, true) := by
  unfold valS
  have e1 : markL10.isSuffixOf (l ++ 32 :: markL10) = true := List.isSuffixOf_iff_suffix.2 ⟨l ++ [32], by simp⟩
  have e2 : (l ++ 32 :: markL10).take ((l ++ 32 :: markL10).length - 10) = l ++ [32] := by
    have e3 : l ++ 32 :: markL10 = (l ++ [32]) ++ markL10 := by simp
    rw [e3, List.length_append, show markL10.length = 10 from rfl, Nat.add_sub_cancel, List.take_left]
  rw [if_pos e1, e2]
  have := tmL_of (a := []) (t := l) (b := [32]) rfl (by decide) (neat_self h)
  simp only [List.nil_append] at this
  rw [this]
/-- It is read back. -/
theorem decl_back {d : DD} (h : declB d = true) : declI (bodyL d) = some (d.nm.data.toList, d.vl.data.toList, d.im) := by
  obtain ⟨h1, h2, h3, h4, h5⟩ := declB_parts h
  have key := declI_at (a := []) (b := []) (w := d.nm.data.toList) (v := d.vl.data.toList ++ if d.im then 32 :: markL10 else []) rfl rfl h1
  simp only [List.nil_append] at key
  unfold bodyL
  rw [key]
  cases e : d.im with
  | false =>
    simp only [Bool.false_eq_true, if_false, List.append_nil]
    rw [h3, valS_plain h4]
    simp only
    rw [h5, h2]
    rfl
  | true =>
    simp only [if_true]
    rw [tm_marked h3 (fit_ne h5), valS_marked h3]
    simp only
    rw [h5, h2]
    rfl
theorem declP_back {d : DD} (h : declB d = true) : declP (bA (bodyL d)) = some d := by
  unfold declP
  rw [bA_list, decl_back h]
  simp only [Option.map_some, bA_data]
/-- What can't stand in it. -/
theorem body_not {d : DD} (h : declB d = true) {b : UInt8} (hb : b ∈ bodyL d) : b ≠ 59 ∧ b ≠ 123 ∧ b ≠ 125 ∧ b ≠ 47 := by
  obtain ⟨h1, h2, h3, h4, h5⟩ := declB_parts h
  unfold bodyL at hb
  rw [List.mem_append, List.mem_cons, List.mem_append] at hb
  have hm : ∀ b : UInt8, b ∈ (32 :: markL10) → b ≠ 59 ∧ b ≠ 123 ∧ b ≠ 125 ∧ b ≠ 47 := by decide
  rcases hb with hb | rfl | hb | hb
  · refine ⟨?_, ?_, ?_, ?_⟩ <;> (rintro rfl; exact not_in_word h1 (by decide) hb)
  · decide
  · obtain ⟨a1, a2, a3, a4, _⟩ := bad_not h4 hb
    exact ⟨a1, a2, a3, a4⟩
  · split at hb
    · exact hm b hb
    · cases hb
theorem declT_list (d : DD) : (declT d).data.toList = bodyL d ++ [59] := by
  unfold declT headD bodyL impT
  cases d.im <;> simp [markL10]
end Go.Proofs.YtnkmdmmlpidcmaaGreatDoor
