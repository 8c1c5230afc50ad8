/-
  Words of a text, on lists of bytes; a selector that is told is read back: pure facts; each theorem names its conditions.
  A selector that is told is read back: pure facts; each theorem names its conditions.
  Selectors and rules read by the program; each theorem names its conditions.
  Rules read by the program; each theorem names its conditions.
-/
import Derived.Test.YtnkmdmmlpidcmaaGreatDoorJAU
import Derived.Test.YtnkmdmmlpidcmaaGreatDoorJAO
namespace Go.Proofs.YtnkmdmmlpidcmaaGreatDoor
open Go.ChangeShapes Go.WideShapes Go.ChangeAt Go.RowKit
set_option linter.unusedVariables false

/-- The words of a list of bytes, o the one that is open. -/
def wlF : List UInt8 → List UInt8 → List (List UInt8)
  | [], o => if o = [] then [] else [o]
  | b :: r, o => if blankN b.toNat then (if o = [] then wlF r [] else o :: wlF r []) else wlF r (o ++ [b])
theorem wlF_end {o : List UInt8} (h : o ≠ []) : wlF [] o = [o] := by rw [wlF, if_neg h]
theorem wlF_bl {b : UInt8} {r o : List UInt8} (hb : blankN b.toNat = true) (h : o ≠ []) : wlF (b :: r) o = o :: wlF r [] := by rw [wlF, if_pos hb, if_neg h]
def opnL (s : ByteArray) (st : Option Nat) (pos : Nat) : List UInt8 := match st with | some a => (s.data.toList.take pos).drop a | none => []
theorem wl_run (s : ByteArray) : ∀ (n pos : Nat) (st : Option Nat) (acc : List (Nat × Nat)), s.size - pos = n → WdSt s pos st acc → wordsOf s = cutT s acc ++ (wlF (s.data.toList.drop pos) (opnL s st pos)).map bA := by
  intro n
  induction n with
  | zero =>
    intro pos st acc hn h
    have hle := h.le
    have hp : pos = s.size := by omega
    have hd : s.data.toList.drop pos = [] := by rw [hp, ← data_len]; exact List.drop_length
    rw [hd]
    cases st with
    | none => rw [h.end_none (by omega)]; simp [opnL, wlF]
    | some a =>
      have ha := h.open_ a rfl
      have hne : (s.data.toList.take pos).drop a ≠ [] := by
        intro e
        have := congrArg List.length e
        rw [List.length_drop, List.length_take, data_len] at this
        simp only [List.length_nil] at this
        omega
      rw [h.end_some (by omega), ext_bA]
      rw [show opnL s (some a) pos = (s.data.toList.take pos).drop a from rfl, wlF_end hne]
      rfl
  | succ n ih =>
    intro pos st acc hn h
    have hlt : pos < s.size := by omega
    have hll : pos < s.data.toList.length := by rw [data_len]; exact hlt
    have hby : byN s pos = (s.data.toList[pos]).toNat := by rw [byN_of s pos hlt, getB s pos hlt]
    rw [List.drop_eq_getElem_cons hll]
    have ht : s.data.toList.take (pos + 1) = s.data.toList.take pos ++ [s.data.toList[pos]] := by rw [List.take_add_one, List.getElem?_eq_getElem hll]; rfl
    have hpl : (s.data.toList.take pos).length = pos := by rw [List.length_take, data_len]; omega
    cases hb : blankN (byN s pos) with
    | true =>
      have hb2 : blankN (s.data.toList[pos]).toNat = true := by rw [← hby]; exact hb
      cases st with
      | none =>
        rw [ih (pos + 1) none acc (by omega) (h.blank_none hlt hb)]
        simp only [wlF, opnL, hb2, if_true]
      | some a =>
        have ha := h.open_ a rfl
        have hne : (s.data.toList.take pos).drop a ≠ [] := by
          intro e
          have := congrArg List.length e
          rw [List.length_drop, hpl] at this
          simp at this
          omega
        rw [ih (pos + 1) none _ (by omega) (h.blank_some hlt hb), cutT_snoc, ext_bA]
        rw [show opnL s (some a) pos = (s.data.toList.take pos).drop a from rfl, wlF_bl hb2 hne, List.map_cons, List.append_assoc]
        rfl
    | false =>
      have hb2 : blankN (s.data.toList[pos]).toNat = false := by rw [← hby]; exact hb
      cases st with
      | none =>
        rw [ih (pos + 1) (some pos) acc (by omega) (h.word_none hlt hb)]
        have e : (s.data.toList.take (pos + 1)).drop pos = [s.data.toList[pos]] := by rw [ht, List.drop_append_of_le_length (by omega), List.drop_of_length_le (by omega)]; rfl
        simp only [wlF, opnL, hb2, Bool.false_eq_true, if_false, e, List.nil_append]
      | some a =>
        have ha := h.open_ a rfl
        rw [ih (pos + 1) (some a) acc (by omega) (h.word_some hlt hb)]
        have e : (s.data.toList.take (pos + 1)).drop a = (s.data.toList.take pos).drop a ++ [s.data.toList[pos]] := by rw [ht, List.drop_append_of_le_length (by omega)]
        simp only [wlF, opnL, hb2, Bool.false_eq_true, if_false, e]
theorem wordsOf_list (s : ByteArray) : wordsOf s = (wlF s.data.toList []).map bA := by
  rw [wl_run s _ 0 none [] rfl (WdSt.start s)]
  simp [cutT, opnL]
/-- No blank stands in it. -/
def noBl (l : List UInt8) : Prop := ∀ b, b ∈ l → blankN b.toNat = false
theorem wlF_word : ∀ (l r o : List UInt8), noBl l → wlF (l ++ r) o = wlF r (o ++ l)
  | [], r, o, _ => by simp
  | b :: l, r, o, h => by
    rw [List.cons_append, wlF, h b (List.mem_cons_self ..)]
    simp only [Bool.false_eq_true, if_false]
    rw [wlF_word l r _ (fun c hc => h c (List.mem_cons_of_mem _ hc))]
    simp
theorem wlF_one {l : List UInt8} (h : noBl l) (hn : l ≠ []) : wlF l [] = [l] := by
  have := wlF_word l [] [] h
  rw [List.append_nil, List.nil_append] at this
  rw [this, wlF, if_neg hn]
theorem wlF_more {l r : List UInt8} (h : noBl l) (hn : l ≠ []) : wlF (l ++ 32 :: r) [] = l :: wlF r [] := by
  rw [wlF_word l _ _ h, List.nil_append, wlF, if_pos (by decide), if_neg hn]
/-- Words told one behind the other, a blank between two. -/
def jn (c : UInt8) : List (List UInt8) → List UInt8
  | [] => []
  | [x] => x
  | x :: y :: r => x ++ c :: jn c (y :: r)
theorem wlF_jn : ∀ (ws : List (List UInt8)), (∀ x, x ∈ ws → noBl x ∧ x ≠ []) → wlF (jn 32 ws) [] = ws
  | [], _ => by simp [jn, wlF]
  | [x], h => by
    obtain ⟨h1, h2⟩ := h x (List.mem_cons_self ..)
    rw [jn]; exact wlF_one h1 h2
  | x :: y :: r, h => by
    obtain ⟨h1, h2⟩ := h x (List.mem_cons_self ..)
    rw [jn, wlF_more h1 h2, wlF_jn (y :: r) (fun z hz => h z (List.mem_cons_of_mem _ hz))]
theorem pcs_jn (c : UInt8) : ∀ (ws : List (List UInt8)), ws ≠ [] → (∀ x, x ∈ ws → c ∉ x) → pcs c (jn c ws) = ws
  | [], h, _ => absurd rfl h
  | [x], _, h => by
    rw [jn, pcs_miss]
    intro hl
    exact h x (List.mem_cons_self ..) (by have := brk_at c x hl; rw [← this]; exact List.getElem_mem _)
  | x :: y :: r, _, h => by
    have hx := h x (List.mem_cons_self ..)
    have e := brk_of (c := c) (a := x) (r := jn c (y :: r)) hx
    rw [jn, pcs_hit c _ (by rw [e]; simp), e, List.take_left, show x.length + 1 = (x ++ [c]).length by simp]
    rw [show x ++ c :: jn c (y :: r) = (x ++ [c]) ++ jn c (y :: r) by simp, List.drop_left]
    rw [pcs_jn c (y :: r) (by simp) (fun z hz => h z (List.mem_cons_of_mem _ hz))]
theorem jn_snoc (c : UInt8) : ∀ (ws : List (List UInt8)) (x : List UInt8), jn c (ws ++ [x]) = if ws = [] then x else jn c ws ++ c :: x
  | [], x => by simp [jn]
  | [y], x => by simp [jn]
  | y :: z :: r, x => by
    have ih := jn_snoc c (z :: r) x
    rw [if_neg (by simp)] at ih
    rw [if_neg (by simp)]
    show jn c (y :: z :: (r ++ [x])) = _
    rw [jn, jn]
    rw [show z :: (r ++ [x]) = (z :: r) ++ [x] from rfl, ih]
    simp
end Go.Proofs.YtnkmdmmlpidcmaaGreatDoor
namespace Go.Proofs.YtnkmdmmlpidcmaaGreatDoor
open Go.ChangeShapes Go.WideShapes Go.ChangeAt Go.RowKit
set_option linter.unusedVariables false

theorem ofL_toL (p : PD) : ofL (toL p) = p := by
  obtain ⟨ty, ud, cls⟩ := p
  unfold toL ofL
  simp only [bA_data, List.map_map]
  congr 1
  have e : (bA ∘ fun x : ByteArray => x.data.toList) = id := funext fun s => bA_data s
  rw [e]
  exact List.map_id _
theorem clsTo_list (h : ByteArray) (l : List ByteArray) : ∀ k, k ≤ l.length → (clsTo h l k).data.toList = h.data.toList ++ clsL ((l.take k).map (·.data.toList))
  | 0, _ => by simp [clsTo, clsL]
  | k + 1, hk => by
    have hk' : k < l.length := hk
    have e : strAt l k = l[k] := by simp [strAt, hk']
    rw [clsTo, e, List.take_add_one, List.getElem?_eq_getElem hk']
    have ih := clsTo_list h l k (by omega)
    simp only [ByteArray.data_append, Array.toList_append, ih, Option.toList, List.map_append, List.map_cons, List.map_nil]
    unfold clsL
    simp
theorem headT_list (p : PD) : (headT p).data.toList = p.ty.data.toList ++ idL p.id.data.toList := by
  unfold headT idL
  by_cases h : p.id.data.toList = []
  · rw [if_pos ((emp_list _).2 h), if_pos h, List.append_nil]
  · rw [if_neg (fun c => h ((emp_list _).1 c)), if_neg h]
    simp
theorem partT_list (p : PD) : (partT p).data.toList = txtL (toL p) := by
  unfold partT txtL toL
  rw [clsTo_list _ _ _ (Nat.le_refl _), headT_list, List.take_length, List.append_assoc]
theorem prP_back {p : PD} (h : partB p = true) : prP (partT p) = some p := by
  unfold prP
  rw [partT_list, prs_full ((partB_L p).1 h), Option.map_some, ofL_toL]
/-- What stands in a part's text. -/
def inP (b : UInt8) : Prop := wbL b = true ∨ b = 42 ∨ b = 35 ∨ b = 46
theorem word_in {l : List UInt8} (h : wordL l = true) {b : UInt8} (hb : b ∈ l) : inP b := by
  unfold wordL at h
  simp only [Bool.and_eq_true] at h
  exact Or.inl (List.all_eq_true.1 h.2.2 b hb)
theorem txt_in {p : PL} (h : GoodL p) {b : UInt8} (hb : b ∈ txtL p) : inP b := by
  unfold txtL idL clsL at hb
  rw [List.mem_append, List.mem_append] at hb
  rcases hb with hb | hb | hb
  · rcases h.ty with e | e | e
    · rw [e] at hb; cases hb
    · rw [e] at hb; simp at hb; exact Or.inr (Or.inl hb)
    · exact word_in e hb
  · split at hb
    · cases hb
    · rcases List.mem_cons.1 hb with rfl | hb
      · exact Or.inr (Or.inr (Or.inl rfl))
      · rcases h.id with e | e
        · rw [e] at hb; cases hb
        · exact word_in e hb
  · obtain ⟨c, hc, hb⟩ := List.mem_flatMap.1 hb
    rcases List.mem_cons.1 hb with rfl | hb
    · exact Or.inr (Or.inr (Or.inr rfl))
    · exact word_in (h.cls c hc) hb
theorem inP_all : ∀ n, n < 256 → (wbL (UInt8.ofNat n) = true ∨ UInt8.ofNat n = 42 ∨ UInt8.ofNat n = 35 ∨ UInt8.ofNat n = 46) → blankN n = false ∧ n ≠ 44 ∧ n ≠ 123 ∧ n ≠ 125 ∧ n ≠ 47 ∧ n ≠ 59 := by decide +kernel
theorem inP_not {b : UInt8} (h : inP b) : blankN b.toNat = false ∧ b ≠ 44 ∧ b ≠ 123 ∧ b ≠ 125 ∧ b ≠ 47 ∧ b ≠ 59 := by
  have := inP_all b.toNat b.toNat_lt (by rw [UInt8.ofNat_toNat]; exact h)
  obtain ⟨h1, h2, h3, h4, h5, h6⟩ := this
  refine ⟨h1, ?_, ?_, ?_, ?_, ?_⟩ <;> rintro rfl
  · exact h2 rfl
  · exact h3 rfl
  · exact h4 rfl
  · exact h5 rfl
  · exact h6 rfl
theorem txt_ne {p : PL} (h : GoodL p) : txtL p ≠ [] := by
  intro e
  unfold txtL idL clsL at e
  rw [List.append_eq_nil_iff, List.append_eq_nil_iff] at e
  obtain ⟨e1, e2, e3⟩ := e
  rcases h.some' with c | c | c
  · exact c e1
  · rw [if_neg c] at e2; cases e2
  · cases hc : p.cls with
    | nil => exact c hc
    | cons x r => rw [hc] at e3; simp at e3
theorem selT_list (l : List PD) : ∀ k, k ≤ l.length → (selT l k).data.toList = jn 32 ((l.take k).map fun p => txtL (toL p))
  | 0, _ => by simp [selT, jn]
  | k + 1, hk => by
    have hk' : k < l.length := hk
    have e : partAt l k = l[k] := by simp [partAt, hk']
    have ih := selT_list l k (by omega)
    rw [selT, e, List.take_add_one, List.getElem?_eq_getElem hk']
    simp only [Option.toList, List.map_append, List.map_cons, List.map_nil]
    rw [jn_snoc]
    unfold sepT
    by_cases h0 : 0 < k
    · rw [if_pos h0, if_neg (by
        intro c
        have := congrArg List.length c
        rw [List.length_map, List.length_take] at this
        simp only [List.length_nil] at this
        omega)]
      simp only [ByteArray.data_append, Array.toList_append, ih, partT_list, List.append_assoc]
      rfl
    · have hz : k = 0 := by omega
      subst hz
      rw [if_neg h0]
      simp [selT, partT_list]
theorem selB_at {l : List PD} (h : selB l = true) {p : PD} (hp : p ∈ l) : partB p = true := by
  obtain ⟨i, hi, rfl⟩ := List.getElem_of_mem hp
  have := ((selB_iff l).1 h).2 i hi
  rwa [show partAt l i = l[i] by simp [partAt, hi]] at this
theorem sel_words {l : List PD} (h : selB l = true) : wordsOf (selT l l.length) = l.map partT := by
  rw [wordsOf_list, selT_list l _ (Nat.le_refl _), List.take_length, wlF_jn, List.map_map]
  · refine List.map_congr_left fun p hp => ?_
    show bA (txtL (toL p)) = partT p
    rw [← partT_list, bA_data]
  · intro x hx
    obtain ⟨p, hp, rfl⟩ := List.mem_map.1 hx
    have hg := (partB_L p).1 (selB_at h hp)
    exact ⟨fun b hb => (inP_not (txt_in hg hb)).1, txt_ne hg⟩
theorem sel_ok {l : List PD} (h : selB l = true) : selOk (selT l l.length) = true := by
  have h1 := ((selB_iff l).1 h).1
  unfold selOk selOkW
  rw [sel_words h, List.length_map, decide_eq_true h1, Bool.true_and, List.all_eq_true]
  intro x hx
  obtain ⟨p, hp, rfl⟩ := List.mem_map.1 hx
  exact (prD_of (prP_back (selB_at h hp))).2
/-- It is read back. -/
theorem sel_back {l : List PD} (h : selB l = true) : selL (selT l l.length) = l := by
  have h1 := sel_ok h
  unfold selOk at h1
  unfold selL selLW
  rw [if_pos h1, sel_words h, List.map_map]
  have : ∀ p ∈ l, (prD ∘ partT) p = id p := fun p hp => (prD_of (prP_back (selB_at h hp))).1
  rw [List.map_congr_left this, List.map_id]
end Go.Proofs.YtnkmdmmlpidcmaaGreatDoor
namespace Go.Proofs.YtnkmdmmlpidcmaaGreatDoor
open Go.ChangeShapes Go.WideShapes Go.ChangeAt Go.RowKit
set_option linter.unusedVariables false

def SelsSays (s : ByteArray) (w w' : World) (e : Ending) : Prop := ∃ v, e = .returned (.tuple #[v, .bool (selsOk s)]) ∧ RowM 1 ESel w' v (if selsOk s then selsW s else []) (iv w w')
theorem allSel_take {ps : List ByteArray} {k : Nat} (h : (ps.take k).all selOk = true) (hk : k < ps.length) (hx : selOk (strAt ps k) = true) : (ps.take (k + 1)).all selOk = true := by
  rw [take_at hk, List.all_append, h]
  simp [hx]
set_option maxHeartbeats 8000000 in
theorem iselectors (s : ByteArray) (w : World) (hs : s.size ≤ 1048576) :
    Calls Tryz.prog 68 #[.string s] w fun e w' => SelsSays s w w' e ∧ Nw w w' := by
  have HSZ : Hid (∀ i, (strAt (pcB 44 s) i).size ≤ 1048576) := fun i => pcB_size 44 s hs i
  have hpl : (pcB 44 s).length ≤ 1048577 := by rw [pcB_len]; have := count_le_size 44 s; omega
  have HI : Hid (Calls Tryz.prog 76 #[.string s, .string ⟨#[44]⟩] w fun e w' => e = .returned (.slice (some ⟨w.heap.size, 0, none⟩) (pcB 44 s).length (pcB 44 s).length) ∧ Nw w w' ∧ LayS w' w.heap.size (pcB 44 s) (pcB 44 s).length) := isplit s 44 w hs
  have HSO : Hid (∀ ps, pcB 44 s = ps → selsOk s = ps.all selOk ∧ selsW s = ps.map selL) := fun ps h => by unfold selsOk selsW; rw [h]; exact ⟨rfl, rfl⟩
  obtain ⟨ps, hps⟩ : ∃ ps, pcB 44 s = ps := ⟨_, rfl⟩
  have HSP : Hid (selsOk s = ps.all selOk ∧ selsW s = ps.map selL) := HSO.out ps hps
  rw [hps] at HSZ hpl HI
  clear HSO hps
  go_enter Tryz.func68, Tryz.ntmps68
  go_wp2_with fail
  refine Calls.mono HI.out ?_
  rintro e w1 ⟨rfl, k1, l1⟩
  have HN1 : Hid (Nw w w1) := k1
  have HL1 : Hid (LayS w1 w.heap.size ps ps.length) := l1
  clear HI k1 l1
  go_wp2
  go_loopw [4, 12] (fun v i wr => ∃ (k : Nat) (els : List (El (List PD))), k ≤ ps.length ∧ i = .int .i64 k ∧ RowO 34 1 ESel wr w1.heap.size v els ∧ els.map El.x = (ps.take k).map selL ∧ (ps.take k).all selOk = true ∧ Nw w1 wr) (fun _ i _ => ps.length - (intOf i).toNat)
  case atStart => exact ⟨0, [], Nat.zero_le _, rfl, RowO.nil _ _ _ _ _, rfl, rfl, Below.refl _ _⟩
  case round =>
    obtain ⟨k, els, hk, rfl, hro, hmx, hall, hw⟩ := hrel
    have hel : els.length = k := by have := congrArg List.length hmx; simp at this; omega
    obtain ⟨va, vc, hv⟩ := hro.slice
    subst hv
    have HR : Hid (RowO 34 1 ESel wr w1.heap.size (.slice va els.length vc) els) := hro
    have HM : Hid (els.map El.x = (ps.take k).map selL) := hmx
    have HA : Hid ((ps.take k).all selOk = true) := hall
    have HW : Hid (Nw w1 wr) := hw
    have HEL : Hid (els.length ≤ 10000000) := by show _ ≤ _; omega
    clear hro hmx hall hel
    by_cases hlt : k < ps.length
    · have q0 := (HL1.out.nw hw).2.1 k hlt
      have hgq := (HL1.out.nw hw).1
      have hz := HSZ.out k
      have HTK : Hid ((ps.take (k + 1)).map selL = (ps.take k).map selL ++ [selL (strAt ps k)]) := by show _ = _; rw [take_at hlt, List.map_append]; rfl
      have HAT : Hid (selOk (strAt ps k) = true → (ps.take (k + 1)).all selOk = true) := fun h => allSel_take HA.out hlt h
      have HBD : Hid (selOk (strAt ps k) = false → ps.all selOk = false) := fun h => by
        rw [List.all_eq_false]
        exact ⟨strAt ps k, str_mem hlt, by rw [h]; simp⟩
      clear hw
      generalize strAt ps k = x at *
      have hkI : (k : Int) < (ps.length : Int) := by omega
      go_wp2_with fail
      refine Calls.mono (ireadSel _ x hz) ?_
      rintro e w2 ⟨⟨u, rfl, hu⟩, k2⟩
      obtain ⟨ua, uc, hue, _⟩ := hu.slice
      subst hue
      cases hok : selOk x
      · have HX : Hid (ps.all selOk = false) := HBD.out hok
        have HN2 : Hid (Nw w w2) := Nw.trans HN1.out (Nw.trans HW.out k2)
        clear hu k2 q0
        go_wp2
        go_ret2
        exact ⟨⟨.slice none 0 0, by rw [HSP.out.1, HX.out]; rfl, by rw [HSP.out.1, HX.out]; exact RowM.nil _ _ _ _⟩, HN2.out⟩
      · have HU : Hid (RowM 3 EPart w2 (.slice ua (selL x).length uc) (selL x) (iv wr w2)) := hu
        have HK2 : Hid (Nw wr w2) := k2
        have HOK : Hid (selOk x = true) := hok
        clear hu k2 q0 hok
        have HNA : ∀ o1, Hid (Nw wr (w2.alloc o1)) := fun o1 => Nw.trans HK2.out ((Below.refl _ _).alloc (Nat.le_refl _) _)
        have HEP : ∀ o1, Hid (ESel (w2.alloc o1) [.slice ua (selL x).length uc] (selL x) (iv wr (w2.alloc o1))) := fun o1 => ⟨_, rfl, (HU.out.nw EPart.kept ((Below.refl _ _).alloc (Nat.le_refl _) _)).mono (iv_mono (by simp))⟩
        go_wp2_with (at_builtin; (refine wp_rw ESel.kept Tryz.underlying29 info_sel rfl (by decide) (by decide) wr _ rfl _ _ rfl w1.heap.size _ els rfl HR.out (HNA _).out (Below.size HW.out) _ rfl (selL x) [.slice ua (selL x).length uc] ?c1 rfl ?c2 (HEP _).out HEL.out ?_))
        case c1 =>
          intro j y hj
          cases j with
          | zero => simp at hj; subst hj; simp
          | succ j => simp at hj
        case c2 =>
          intro y hy
          simp only [List.mem_cons, List.not_mem_nil, or_false] at hy
          subst hy; rfl
        intro v' w' h1 h2
        have HN : Hid (Nw w1 w') := Below.trans (HW.out.trans (HNA _).out) (Ext.below h2 (fun g e => (HR.out.lt g e).1) (Nat.le_trans (Below.size HW.out) (Below.size (HNA _).out)))
        have H1 : Hid _ := h1
        clear h1 h2
        go_wp2
        go_roundw
        case rel => exact ⟨k + 1, _, by omega, by go_num, H1.out, by rw [HTK.out, List.map_append, HM.out]; rfl, HAT.out HOK.out, HN.out⟩
        case measure => simp [intOf]; omega
    · have hk2 : k = ps.length := by omega
      have HE : Hid (els.map El.x = ps.map selL) := by show _ = _; rw [HM.out, hk2, List.take_length]
      have HAL : Hid (ps.all selOk = true) := by show _ = _; have := HA.out; rw [hk2, List.take_length] at this; exact this
      have hkn : ¬ ((k : Int) < (ps.length : Int)) := by omega
      clear hk2 hw
      go_wp2
      go_ret2
      refine ⟨⟨.slice va els.length vc, ?_, ?_⟩, Nw.trans HN1.out HW.out⟩
      · rw [HSP.out.1, HAL.out]
        rfl
      · rw [HSP.out.1, HSP.out.2, HAL.out]
        show RowM 1 ESel wr (.slice va els.length vc) (ps.map selL) (iv w wr)
        rw [← HE.out]
        exact RowO.row HR.out (fun b h1 h2 => ⟨Nat.le_trans (Below.size HN1.out) h1, h2⟩)
/-- A scope with one label, to which the run jumps ahead. -/
theorem scope_ahead {c rest : Go.Code} {Q : Exit → Act → World → Prop} {a : Act} {w : World} (l : Nat) (hf : findLabel c l = some rest) (h : c.wp Tryz.prog (Exit.jump l (fun a w => rest.wp Tryz.prog (Exit.noGoto Q) a w) Q) a w) : (Code.scope c).wp Tryz.prog Q a w :=
  wp_scope_jumps l (fun a w => rest.wp Tryz.prog (Exit.noGoto Q) a w) (fun _ _ => 0) hf h (fun a w hJ => wp_mono hJ (fun e a' w' hq => by
    cases e with
    | goto l' => exact hq.elim
    | _ => exact hq))
theorem cutV_at (c : UInt8) (s : ByteArray) : cutV c s = .tuple #[.string (bA (s.data.toList.take (brk c s.data.toList))), .string (bA (s.data.toList.drop (brk c s.data.toList + 1))), .bool (decide (brk c s.data.toList < s.size))] := by
  unfold cutV
  by_cases h : brk c s.data.toList < s.size
  · rw [if_pos h, ext_head, ext_tail, decide_eq_true h]
  · have hb := brk_le c s.data.toList
    rw [data_len] at hb
    rw [if_neg h, decide_eq_false h, List.take_of_length_le (by rw [data_len]; omega), List.drop_eq_nil_of_le (by rw [data_len]; omega), bA_data]
    rfl
end Go.Proofs.YtnkmdmmlpidcmaaGreatDoor
namespace Go.Proofs.YtnkmdmmlpidcmaaGreatDoor
open Go.ChangeShapes Go.WideShapes Go.ChangeAt Go.RowKit
set_option linter.unusedVariables false

def RulesSays (s : ByteArray) (w w' : World) (e : Ending) : Prop := ∃ v, e = .returned v ∧ RowM 2 ERule w' v (rules30 s) (iv w w')
theorem jump_ret {l : Nat} {J : Act → World → Prop} {Q : Exit → Act → World → Prop} {a : Act} {w : World} : Exit.jump l J Q .ret a w = Q .ret a w := rfl
set_option maxHeartbeats 8000000 in
theorem irules (s : ByteArray) (w : World) (hs : s.size ≤ 1048576) :
    Calls Tryz.prog 31 #[.string s] w fun e w' => RulesSays s w w' e ∧ Nw w w' := by
  go_enter Tryz.func31, Tryz.ntmps31
  go_wp2
  go_loopw [0, 3] (fun t v wr => ∃ (r : ByteArray) (els : List (El RD)), t = .string r ∧ r.size ≤ s.size ∧ RowO 32 2 ERule wr w.heap.size v els ∧ RuSt s r.data.toList (els.map El.x) ∧ Nw w wr) (fun t _ _ => Lib.strSize t)
  case atStart => exact ⟨s, [], rfl, Nat.le_refl _, RowO.nil _ _ _ _ _, RuSt.start s, Below.refl _ _⟩
  case round =>
    obtain ⟨r, els, rfl, hrs, hro, hst, hw⟩ := hrel
    have h30 : els.length ≤ 30 := by have := hst.le; simpa using this
    have hr2 : r.size ≤ 1048576 := by omega
    obtain ⟨va, vc, hv⟩ := hro.slice
    subst hv
    have HR : Hid (RowO 32 2 ERule wr w.heap.size (.slice va els.length vc) els) := hro
    have HST : Hid (RuSt s r.data.toList (els.map El.x)) := hst
    have HW : Hid (Nw w wr) := hw
    have HCT : Hid _ := cutV_at 123 r
    clear hro hst hw
    by_cases hm : brk 123 r.data.toList < r.size
    · have HM : Hid (brk 123 r.data.toList < r.data.toList.length) := by show _ < _; rw [data_len]; exact hm
      rw [decide_eq_true hm] at HCT
      have HC2 : Hid _ := cutV_at 125 (bA (behindL r.data.toList))
      rw [bA_list] at HC2
      have hrl := restL_len HM.out
      rw [data_len] at hrl
      have hal : (bA (aheadL r.data.toList)).size ≤ 1048576 := by rw [bA_size]; unfold aheadL; rw [List.length_take, data_len]; omega
      have hbl : (bA (behindL r.data.toList)).size ≤ 1048576 := by rw [bA_size]; unfold behindL; rw [List.length_drop, data_len]; omega
      have hil : (bA (insideL r.data.toList)).size ≤ 1048576 := by rw [bA_size]; unfold insideL behindL; rw [List.length_take, List.length_drop, data_len]; omega
      have hcl : (bA (restL r.data.toList)).size < r.size := by rw [bA_size]; exact hrl
      have HSN : Hid (selsOk (bA (aheadL r.data.toList)) = false → RuSt s (bA (restL r.data.toList)).data.toList (els.map El.x)) := fun h => by rw [bA_list]; exact HST.out.bad HM.out h
      have HSF : Hid (els.length = 30 → RuSt s (bA (restL r.data.toList)).data.toList (els.map El.x)) := fun h => by rw [bA_list]; exact HST.out.full HM.out (by rw [List.length_map]; exact h)
      have HSM : Hid (selsOk (bA (aheadL r.data.toList)) = true → els.length < 30 → RuSt s (bA (restL r.data.toList)).data.toList (els.map El.x ++ [⟨selsW (bA (aheadL r.data.toList)), dcs (pcB 59 (bA (insideL r.data.toList)))⟩])) := fun h1 h2 => by rw [bA_list]; exact HST.out.more HM.out h1 (by rw [List.length_map]; exact h2)
      have HCT2 : Hid (cutV 123 r = .tuple #[.string (bA (aheadL r.data.toList)), .string (bA (behindL r.data.toList)), .bool true]) := HCT.out
      obtain ⟨b2, hb2⟩ : ∃ b2, cutV 125 (bA (behindL r.data.toList)) = .tuple #[.string (bA (insideL r.data.toList)), .string (bA (restL r.data.toList)), .bool b2] := ⟨_, HC2.out⟩
      have HC3 : Hid (cutV 125 (bA (behindL r.data.toList)) = .tuple #[.string (bA (insideL r.data.toList)), .string (bA (restL r.data.toList)), .bool b2]) := hb2
      clear hm HCT HC2 hrl HM HST hb2
      generalize bA (aheadL r.data.toList) = A1 at *
      generalize bA (behindL r.data.toList) = A2 at *
      generalize bA (insideL r.data.toList) = C1 at *
      generalize bA (restL r.data.toList) = C2 at *
      go_wp2_with fail
      refine scope_ahead 0 (rest := _) rfl ?_
      go_wp2_with fail
      refine Calls.mono (cut1 r 123 _ hr2) ?_
      rw [HCT2.out]
      rintro e w1 ⟨rfl, k1⟩
      have HK1 : Hid (Nw wr w1) := k1
      clear k1
      go_wp2_with fail
      refine Calls.mono (cut1 A2 125 _ hbl) ?_
      rw [HC3.out]
      rintro e w2 ⟨rfl, k2⟩
      have HK2 : Hid (Nw wr w2) := Nw.trans HK1.out k2
      clear k2 HK1
      go_wp2_with fail
      refine Calls.mono (iselectors A1 _ hal) ?_
      rintro e w3 ⟨⟨u, rfl, hu⟩, k3⟩
      obtain ⟨ua, uc, hue, _⟩ := hu.slice
      subst hue
      have HK23 : Hid (Nw w2 w3) := k3
      have HK3 : Hid (Nw wr w3) := Nw.trans HK2.out k3
      have HN3 : Hid (Nw w w3) := Nw.trans HW.out HK3.out
      have HR3 : Hid (RowO 32 2 ERule w3 w.heap.size (.slice va els.length vc) els) := HR.out.nw ERule.kept HK3.out
      cases hok : selsOk A1
      · have HX : Hid (RuSt s C2.data.toList (els.map El.x)) := HSN.out hok
        have hu0 : (if false = true then selsW A1 else []).length = 0 := rfl
        rw [hu0]
        clear hu0
        clear hu k3 hok
        go_wp2
        apply wp_goto
        refine ⟨rfl, ?_⟩
        go_wp2
        show Exit.inBlock 1 _ Exit.normal _ _
        go_wp2
        go_roundw
        case rel => exact ⟨C2, els, rfl, by omega, HR3.out, HX.out, HN3.out⟩
        case measure => simp [Lib.strSize]; omega
      · rw [hok] at hu
        have hul : (if true = true then selsW A1 else []) = selsW A1 := rfl
        rw [hul] at hu ⊢
        have HU : Hid (RowM 1 ESel w3 (.slice ua (selsW A1).length uc) (selsW A1) (iv w2 w3)) := hu
        have HOK : Hid (selsOk A1 = true) := hok
        clear hu k3 hok hul
        by_cases h3 : els.length = 30
        · have HX : Hid (RuSt s C2.data.toList (els.map El.x)) := HSF.out h3
          have g30 : ((els.length : Int) == 30) = true := by rw [h3]; rfl
          clear h3
          go_wp2
          apply wp_goto
          refine ⟨rfl, ?_⟩
          go_wp2
          show Exit.inBlock 1 _ Exit.normal _ _
          go_wp2
          go_roundw
          case rel => exact ⟨C2, els, rfl, by omega, HR3.out, HX.out, HN3.out⟩
          case measure => simp [Lib.strSize]; omega
        · have HX : Hid _ := HSM.out HOK.out (by omega)
          have g30 : ((els.length : Int) == 30) = false := by rw [beq_eq_false_iff_ne]; omega
          have HL30 : Hid (els.length ≤ 10000000) := by show _ ≤ _; omega
          go_wp2_with fail
          refine Calls.mono (ideclsOf C1 _ hil) ?_
          rintro e w4 ⟨⟨d, rfl, hd⟩, k4⟩
          obtain ⟨da, dc, hde, _⟩ := hd.slice
          subst hde
          have HK4 : Hid (Nw w3 w4) := k4
          have HD : Hid (RowM 3 EDecl w4 (.slice da (dcs (pcB 59 C1)).length dc) (dcs (pcB 59 C1)) (iv w3 w4)) := hd
          clear hd k4 h3
          have HNA : ∀ o1, Hid (Nw wr (w4.alloc o1)) := fun o1 => Nw.trans (Nw.trans HK3.out HK4.out) ((Below.refl _ _).alloc (Nat.le_refl _) _)
          have HEP : ∀ o1, Hid (ERule (w4.alloc o1) [.slice ua (selsW A1).length uc, .slice da (dcs (pcB 59 C1)).length dc] ⟨selsW A1, dcs (pcB 59 C1)⟩ (iv wr (w4.alloc o1))) := fun o1 => by
            have z1 := Below.size HK2.out
            have z2 := Below.size HK23.out
            have z3 := Below.size HK4.out
            have a0 : Nw w4 (w4.alloc o1) := (Below.refl _ _).alloc (Nat.le_refl _) _
            have z4 : w4.heap.size ≤ (w4.alloc o1).heap.size := Below.size a0
            refine ⟨_, _, iv w2 w3, iv w3 w4, rfl, (HU.out.nw ESel.kept HK4.out).nw ESel.kept a0, HD.out.nw EDecl.kept a0, fun b hb => ⟨by have := hb.1; omega, by have := hb.2; omega⟩, fun b hb => ⟨by have := hb.1; omega, by have := hb.2; omega⟩, fun b hb hc => ?_⟩
            have := hb.2
            have := hc.1
            omega
          go_wp2_with (at_builtin; (refine wp_rw ERule.kept Tryz.underlying23 info_rule rfl (by decide) (by decide) wr _ rfl _ _ rfl w.heap.size _ els rfl HR.out (HNA _).out (Below.size HW.out) _ rfl ⟨selsW A1, dcs (pcB 59 C1)⟩ [.slice ua (selsW A1).length uc, .slice da (dcs (pcB 59 C1)).length dc] ?c1 rfl ?c2 (HEP _).out HL30.out ?_))
          case c1 =>
            intro j y hj
            rcases (show j = 0 ∨ j = 1 ∨ 2 ≤ j by omega) with rfl | rfl | h
            · simp at hj; subst hj; simp
            · simp at hj; subst hj; simp
            · rw [List.getElem?_eq_none (by simpa using h)] at hj; cases hj
          case c2 =>
            intro y hy
            simp only [List.mem_cons, List.not_mem_nil, or_false] at hy
            rcases hy with rfl | rfl <;> rfl
          intro v' w' h1 h2
          have HN : Hid (Nw w w') := Below.trans (HW.out.trans (HNA _).out) (Ext.below h2 (fun g e => (HR.out.lt g e).1) (Nat.le_trans (Below.size HW.out) (Below.size (HNA _).out)))
          have H1 : Hid _ := h1
          clear h1 h2
          go_wp2
          apply wp_label
          go_wp2
          show Exit.inBlock 1 _ Exit.normal _ _
          go_wp2
          go_roundw
          case rel => exact ⟨C2, _, rfl, by omega, H1.out, by rw [List.map_append]; exact HX.out, HN.out⟩
          case measure => simp [Lib.strSize]; omega
    · have HM : Hid (¬ brk 123 r.data.toList < r.data.toList.length) := by show ¬ _; rw [data_len]; exact hm
      rw [decide_eq_false hm] at HCT
      generalize bA (r.data.toList.take (brk 123 r.data.toList)) = A1 at *
      generalize bA (r.data.toList.drop (brk 123 r.data.toList + 1)) = A2 at *
      have HE : Hid (els.map El.x = rules30 s) := HST.out.fin HM.out
      clear hm
      go_wp2_with fail
      refine scope_ahead 0 (rest := _) rfl ?_
      go_wp2_with fail
      refine Calls.mono (cut1 r 123 _ hr2) ?_
      rw [HCT.out]
      rintro e w1 ⟨rfl, k1⟩
      have HN1 : Hid (Nw w w1) := Nw.trans HW.out k1
      have HR1 : Hid (RowO 32 2 ERule w1 w.heap.size (.slice va els.length vc) els) := HR.out.nw ERule.kept k1
      clear k1
      go_wp2
      rw [jump_ret]
      show Exit.inBlock 1 _ Exit.ret _ _
      go_wp2
      go_ret
      exact ⟨⟨_, rfl, by rw [← HE.out]; exact RowO.row HR1.out (fun b h1 h2 => ⟨h1, h2⟩)⟩, HN1.out⟩
end Go.Proofs.YtnkmdmmlpidcmaaGreatDoor
