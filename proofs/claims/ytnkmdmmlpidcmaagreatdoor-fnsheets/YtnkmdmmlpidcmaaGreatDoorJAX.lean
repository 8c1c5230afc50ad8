/-
  A sheet that is told is read back: pure facts; each theorem names its conditions.
  The text of a declaration, the program's; each theorem names its conditions.
  The text of a rule, the program's; each theorem names its conditions.
  A rule that can be told, and the text of a sheet, the program's; each theorem names its conditions.
-/
import Derived.Test.YtnkmdmmlpidcmaaGreatDoorJAV
import Derived.Test.YtnkmdmmlpidcmaaGreatDoorJAW
import Derived.Test.YtnkmdmmlpidcmaaGreatDoorJAU
import Derived.Test.YtnkmdmmlpidcmaaGreatDoorJAK
namespace Go.Proofs.YtnkmdmmlpidcmaaGreatDoor
open Go.ChangeShapes Go.WideShapes Go.ChangeAt Go.RowKit
set_option linter.unusedVariables false

def selX (x : List PD) : List UInt8 := (selT x x.length).data.toList
def decX (l : List DD) : List UInt8 := l.flatMap fun d => bodyL d ++ [59]
def ruleX (r : RD) : List UInt8 := jn 44 (r.sels.map selX) ++ 123 :: (decX r.decls ++ [125])
theorem selsT_list (t : ByteArray) (l : List (List PD)) : ∀ k, k ≤ l.length → (selsT t l k).data.toList = t.data.toList ++ jn 44 ((l.take k).map selX)
  | 0, _ => by simp [selsT, jn]
  | k + 1, hk => by
    have hk' : k < l.length := hk
    have e : selAt l k = l[k] := by simp [selAt, hk']
    have ih := selsT_list t l k (by omega)
    rw [selsT, e, List.take_add_one, List.getElem?_eq_getElem hk']
    simp only [Option.toList, List.map_append, List.map_cons, List.map_nil]
    rw [jn_snoc]
    unfold commaT
    by_cases h0 : 0 < k
    · rw [if_pos h0, if_neg (by
        intro c
        have := congrArg List.length c
        rw [List.length_map, List.length_take] at this
        simp only [List.length_nil] at this
        omega)]
      simp only [ByteArray.data_append, Array.toList_append, ih, List.append_assoc]
      rfl
    · have hz : k = 0 := by omega
      subst hz
      rw [if_neg h0]
      simp [selsT, selX]
theorem declsT_list (t : ByteArray) (l : List DD) : ∀ k, k ≤ l.length → (declsT t l k).data.toList = t.data.toList ++ decX (l.take k)
  | 0, _ => by simp [declsT, decX]
  | k + 1, hk => by
    have hk' : k < l.length := hk
    have e : declAt l k = l[k] := by simp [declAt, hk']
    have ih := declsT_list t l k (by omega)
    rw [declsT, e, List.take_add_one, List.getElem?_eq_getElem hk']
    simp only [ByteArray.data_append, Array.toList_append, ih, declT_list, Option.toList]
    unfold decX
    rw [List.flatMap_append, List.flatMap_cons, List.flatMap_nil, List.append_nil, List.append_assoc]
theorem ruleT_list (t : ByteArray) (r : RD) : (ruleT t r).data.toList = t.data.toList ++ ruleX r := by
  unfold ruleT ruleX
  simp only [ByteArray.data_append, Array.toList_append, declsT_list _ _ _ (Nat.le_refl _), selsT_list _ _ _ (Nat.le_refl _), List.take_length]
  simp
theorem sheetT_list (l : List RD) : ∀ k, k ≤ l.length → (sheetT l k).data.toList = (l.take k).flatMap ruleX
  | 0, _ => by simp [sheetT]
  | k + 1, hk => by
    have hk' : k < l.length := hk
    have e : ruleAt l k = l[k] := by simp [ruleAt, hk']
    have ih := sheetT_list l k (by omega)
    rw [sheetT, e, ruleT_list, ih, List.take_add_one, List.getElem?_eq_getElem hk', List.flatMap_append]
    simp only [Option.toList, List.flatMap_cons, List.flatMap_nil, List.append_nil]
theorem jn_mem (c : UInt8) : ∀ (ws : List (List UInt8)) {b : UInt8}, b ∈ jn c ws → b = c ∨ ∃ x, x ∈ ws ∧ b ∈ x
  | [], b, h => by rw [jn] at h; cases h
  | [x], b, h => by rw [jn] at h; exact Or.inr ⟨x, List.mem_cons_self .., h⟩
  | x :: y :: r, b, h => by
    rw [jn, List.mem_append, List.mem_cons] at h
    rcases h with h | h | h
    · exact Or.inr ⟨x, List.mem_cons_self .., h⟩
    · exact Or.inl h
    · rcases jn_mem c (y :: r) h with e | ⟨z, hz, hb⟩
      · exact Or.inl e
      · exact Or.inr ⟨z, List.mem_cons_of_mem _ hz, hb⟩
theorem selX_not {x : List PD} (h : selB x = true) {b : UInt8} (hb : b ∈ selX x) : b ≠ 44 ∧ b ≠ 123 ∧ b ≠ 125 ∧ b ≠ 47 := by
  unfold selX at hb
  rw [selT_list x _ (Nat.le_refl _), List.take_length] at hb
  rcases jn_mem 32 _ hb with rfl | ⟨y, hy, hb⟩
  · decide
  · obtain ⟨p, hp, rfl⟩ := List.mem_map.1 hy
    obtain ⟨_, h1, h2, h3, h4, _⟩ := inP_not (txt_in ((partB_L p).1 (selB_at h hp)) hb)
    exact ⟨h1, h2, h3, h4⟩
theorem ruleB_parts {r : RD} (h : ruleB r = true) : r.sels ≠ [] ∧ r.decls.length ≤ 12 ∧ (∀ x, x ∈ r.sels → selB x = true) ∧ (∀ d, d ∈ r.decls → declB d = true) := by
  unfold ruleB at h
  simp only [Bool.and_eq_true, decide_eq_true_eq, List.all_eq_true] at h
  obtain ⟨⟨h1, h2⟩, h3, h4⟩ := h
  exact ⟨fun e => by rw [e] at h1; simp at h1, h2, h3, h4⟩
theorem ahead_not {r : RD} (h : ruleB r = true) {b : UInt8} (hb : b ∈ jn 44 (r.sels.map selX)) : b ≠ 123 ∧ b ≠ 125 ∧ b ≠ 47 := by
  rcases jn_mem 44 _ hb with rfl | ⟨y, hy, hb⟩
  · decide
  · obtain ⟨x, hx, rfl⟩ := List.mem_map.1 hy
    obtain ⟨_, h2, h3, h4⟩ := selX_not ((ruleB_parts h).2.2.1 x hx) hb
    exact ⟨h2, h3, h4⟩
theorem decX_not {l : List DD} (h : ∀ d, d ∈ l → declB d = true) {b : UInt8} (hb : b ∈ decX l) : b ≠ 123 ∧ b ≠ 125 ∧ b ≠ 47 := by
  unfold decX at hb
  obtain ⟨d, hd, hb⟩ := List.mem_flatMap.1 hb
  rcases List.mem_append.1 hb with hb | hb
  · obtain ⟨_, h2, h3, h4⟩ := body_not (h d hd) hb
    exact ⟨h2, h3, h4⟩
  · simp at hb; subst hb; decide
theorem pcs_dec : ∀ (l : List DD), (∀ d, d ∈ l → declB d = true) → pcs 59 (decX l) = l.map bodyL ++ [[]]
  | [], _ => by
    show pcs 59 [] = [[]]
    exact pcs_miss 59 [] (by simp)
  | d :: l, h => by
    have hx : (59 : UInt8) ∉ bodyL d := fun hm => (body_not (h d (List.mem_cons_self ..)) hm).1 rfl
    have e1 : decX (d :: l) = bodyL d ++ 59 :: decX l := by unfold decX; simp
    have e := brk_of (c := 59) (a := bodyL d) (r := decX l) hx
    rw [e1, pcs_hit 59 _ (by rw [e]; simp), e, List.take_left, show (bodyL d).length + 1 = (bodyL d ++ [59]).length by simp]
    rw [show bodyL d ++ 59 :: decX l = (bodyL d ++ [59]) ++ decX l by simp, List.drop_left, pcs_dec l (fun x hx => h x (List.mem_cons_of_mem _ hx))]
    rfl
theorem declP_nil : declP (bA []) = none := by decide
theorem filter_back : ∀ (l : List DD), (∀ d, d ∈ l → declB d = true) → ((l.map bodyL ++ [[]]).map bA).filterMap declP = l
  | [], _ => by simp [declP_nil]
  | d :: l, h => by
    have ih := filter_back l (fun x hx => h x (List.mem_cons_of_mem _ hx))
    rw [List.map_cons, List.cons_append, List.map_cons, List.filterMap_cons, declP_back (h d (List.mem_cons_self ..))]
    simp only
    rw [ih]
/-- A rule is read back. -/
theorem rule_back {r : RD} (h : ruleB r = true) (rest : List UInt8) : rulesA (ruleX r ++ rest) = r :: rulesA rest := by
  obtain ⟨p1, p2, p3, p4⟩ := ruleB_parts h
  have hl : ruleX r ++ rest = jn 44 (r.sels.map selX) ++ 123 :: (decX r.decls ++ 125 :: rest) := by unfold ruleX; simp
  have n1 : (123 : UInt8) ∉ jn 44 (r.sels.map selX) := fun hm => (ahead_not h hm).1 rfl
  have n2 : (125 : UInt8) ∉ decX r.decls := fun hm => (decX_not p4 hm).2.1 rfl
  have e := brk_of (c := 123) (a := jn 44 (r.sels.map selX)) (r := decX r.decls ++ 125 :: rest) n1
  have e2 := brk_of (c := 125) (a := decX r.decls) (r := rest) n2
  have ea : aheadL (ruleX r ++ rest) = jn 44 (r.sels.map selX) := by unfold aheadL; rw [hl, e, List.take_left]
  have eb : behindL (ruleX r ++ rest) = decX r.decls ++ 125 :: rest := by
    unfold behindL
    rw [hl, e, show (jn 44 (r.sels.map selX)).length + 1 = (jn 44 (r.sels.map selX) ++ [123]).length by simp, show jn 44 (r.sels.map selX) ++ 123 :: (decX r.decls ++ 125 :: rest) = (jn 44 (r.sels.map selX) ++ [123]) ++ (decX r.decls ++ 125 :: rest) by simp, List.drop_left]
  have ei : insideL (ruleX r ++ rest) = decX r.decls := by unfold insideL; rw [eb, e2, List.take_left]
  have er : restL (ruleX r ++ rest) = rest := by
    unfold restL
    rw [eb, e2, show (decX r.decls).length + 1 = (decX r.decls ++ [125]).length by simp, show decX r.decls ++ 125 :: rest = (decX r.decls ++ [125]) ++ rest by simp, List.drop_left]
  have hp : pcB 44 (bA (jn 44 (r.sels.map selX))) = r.sels.map fun x => selT x x.length := by
    unfold pcB
    rw [bA_list, pcs_jn 44 _ (by simpa using p1) (by
      intro y hy hm
      obtain ⟨x, hx, rfl⟩ := List.mem_map.1 hy
      exact (selX_not (p3 x hx) hm).1 rfl), List.map_map]
    refine List.map_congr_left fun x _ => ?_
    show bA (selX x) = _
    unfold selX
    rw [bA_data]
  have hok : selsOk (bA (aheadL (ruleX r ++ rest))) = true := by
    unfold selsOk
    rw [ea, hp, List.all_eq_true]
    intro y hy
    obtain ⟨x, hx, rfl⟩ := List.mem_map.1 hy
    exact sel_ok (p3 x hx)
  have hru : ruleL (ruleX r ++ rest) = r := by
    unfold ruleL selsW dcs
    rw [ea, hp, ei]
    have h1 : (r.sels.map fun x => selT x x.length).map selL = r.sels := by
      rw [List.map_map]
      have : ∀ x ∈ r.sels, (selL ∘ fun x => selT x x.length) x = id x := fun x hx => sel_back (p3 x hx)
      rw [List.map_congr_left this, List.map_id]
    have h2 : ((pcB 59 (bA (decX r.decls))).filterMap declP).take 12 = r.decls := by
      unfold pcB
      rw [bA_list, pcs_dec _ p4, filter_back _ p4, List.take_of_length_le p2]
    rw [h1, h2]
  rw [rulesA_hit (by rw [hl, e]; simp), er]
  unfold oneR
  rw [if_pos hok, hru]
  rfl
theorem rules_back : ∀ (l : List RD), (∀ r, r ∈ l → ruleB r = true) → rulesA (l.flatMap ruleX) = l
  | [], _ => rulesA_miss (by simp)
  | r :: l, h => by
    rw [List.flatMap_cons, rule_back (h r (List.mem_cons_self ..)), rules_back l (fun x hx => h x (List.mem_cons_of_mem _ hx))]
theorem bare_self : ∀ (l : List UInt8), (47 : UInt8) ∉ l → bareL l = l
  | [], _ => bareL_nil
  | b :: l, h => by
    rw [bareL_step b l (fun c => h (by rw [c.1]; exact List.mem_cons_self ..)), bare_self l (fun c => h (List.mem_cons_of_mem _ c))]
/-- A sheet is read back. -/
theorem sheet_back {l : List RD} (h : sheetOk l = true) : shtL (sheetT l l.length) = l := by
  unfold sheetOk at h
  simp only [Bool.and_eq_true, decide_eq_true_eq] at h
  obtain ⟨⟨h1, h2⟩, h3⟩ := h
  have hall : ∀ r, r ∈ l → ruleB r = true := List.all_eq_true.1 h2
  have e := sheetT_list l _ (Nat.le_refl _)
  rw [List.take_length] at e
  have hn : (47 : UInt8) ∉ l.flatMap ruleX := by
    intro hm
    obtain ⟨r, hr, hb⟩ := List.mem_flatMap.1 hm
    unfold ruleX at hb
    rw [List.mem_append, List.mem_cons, List.mem_append] at hb
    rcases hb with hb | hb | hb | hb
    · exact (ahead_not (hall r hr) hb).2.2 rfl
    · cases hb
    · exact (decX_not (ruleB_parts (hall r hr)).2.2.2 hb).2.2 rfl
    · simp at hb
  unfold shtL rules30 bareB
  rw [if_neg (by omega), bA_list, e, bare_self _ hn, rules_back l hall, List.take_of_length_le h1]
end Go.Proofs.YtnkmdmmlpidcmaaGreatDoor
namespace Go.Proofs.YtnkmdmmlpidcmaaGreatDoor
open Go.ChangeShapes Go.WideShapes Go.ChangeAt Go.RowKit
set_option linter.unusedVariables false
set_option linter.unusedSimpArgs false

set_option maxHeartbeats 8000000 in
set_option maxRecDepth 100000 in
theorem iappDecl (w0 w : World) (d : DD) (v : Value) (t : ByteArray) (hn : d.nm.size ≤ 2000000) (hv : d.vl.size ≤ 2000000) (hw : Nw w0 w) (hb : Buf w w0.heap.size v t) (ht : t.size ≤ 5000000) :
    Calls Tryz.prog 60 #[v, .agg #[.string d.nm, .string d.vl, .bool d.im]] w fun e w' => ∃ v', e = .returned v' ∧ Nw w0 w' ∧ Buf w' w0.heap.size v' (t ++ declT d) ∧ Ext v v' w w' := by
  obtain ⟨nm, vl, im⟩ := d
  have HB0 : Hid (Buf w w0.heap.size v t) := hb
  have HW0 : Hid (Nw w0 w) := hw
  simp only at hn hv
  clear hb hw
  have S0 : Hid (St w v w0 (w.alloc (.cells #[.string nm, .string vl, .bool im] 36)) w.heap.size nm vl (.bool im) v t) := St.begin HW0.out HB0.out (Ext.refl _ _) _
  go_enter Tryz.func60, Tryz.ntmps60
  have e58 : (⟨#[58]⟩ : ByteArray).size = 1 := rfl
  have e32 : (⟨#[32]⟩ : ByteArray).size = 1 := rfl
  have e59 : (⟨#[59]⟩ : ByteArray).size = 1 := rfl
  have e10 : (⟨#[33, 105, 109, 112, 111, 114, 116, 97, 110, 116]⟩ : ByteArray).size = 10 := rfl
  go_wp2_with (at_builtin; (refine wp_text _ rfl _ _ rfl w0.heap.size _ _ rfl S0.out.buf nm rfl ?c1 ?c2 ?_))
  case c1 => first | omega | (simp only [size_app, e58, e32, e59, e10]; omega)
  case c2 => exact Below.size S0.out.nw
  intro v1 w1 b1 e1
  have S1 : Hid (St w v w0 w1 w.heap.size nm vl (.bool im) v1 (t ++ nm)) := S0.out.ext e1 b1
  clear b1 e1
  have c0 := S1.out.c0; have c1 := S1.out.c1; have c2 := S1.out.c2
  go_wp2_with (at_builtin; (refine wp_byte _ rfl _ _ rfl w0.heap.size _ _ 58 rfl (S1.out.alloc _).buf _ rfl ?c1 ?c2 ?c3 ?_))
  case c1 => simp
  case c2 => first | omega | (simp only [size_app, e58, e32, e59, e10]; omega)
  case c3 => exact Below.size (S1.out.alloc _).nw
  intro v2 w2 b1 e1
  have S2 : Hid (St w v w0 w2 w.heap.size nm vl (.bool im) v2 ((t ++ nm) ++ (⟨#[58]⟩ : ByteArray))) := (S1.out.alloc _).ext e1 b1
  clear b1 e1
  have c0 := S2.out.c0; have c1 := S2.out.c1; have c2 := S2.out.c2
  go_wp2_with (at_builtin; (refine wp_text _ rfl _ _ rfl w0.heap.size _ _ rfl S2.out.buf vl rfl ?c1 ?c2 ?_))
  case c1 => first | omega | (simp only [size_app, e58, e32, e59, e10]; omega)
  case c2 => exact Below.size S2.out.nw
  intro v3 w3 b1 e1
  have S3 : Hid (St w v w0 w3 w.heap.size nm vl (.bool im) v3 (((t ++ nm) ++ (⟨#[58]⟩ : ByteArray)) ++ vl)) := S2.out.ext e1 b1
  clear b1 e1
  have c0 := S3.out.c0; have c1 := S3.out.c1; have c2 := S3.out.c2
  cases im with
  | false =>
    go_wp2_with (at_builtin; (refine wp_byte _ rfl _ _ rfl w0.heap.size _ _ 59 rfl (S3.out.alloc _).buf _ rfl ?c1 ?c2 ?c3 ?_))
    case c1 => simp
    case c2 => first | omega | (simp only [size_app, e58, e32, e59, e10]; omega)
    case c3 => exact Below.size (S3.out.alloc _).nw
    intro v4 w4 b1 e1
    have S4 : Hid (St w v w0 w4 w.heap.size nm vl (.bool false) v4 ((((t ++ nm) ++ (⟨#[58]⟩ : ByteArray)) ++ vl) ++ (⟨#[59]⟩ : ByteArray))) := (S3.out.alloc _).ext e1 b1
    clear b1 e1
    have c0 := S4.out.c0; have c1 := S4.out.c1; have c2 := S4.out.c2
    have E : t ++ declT ⟨nm, vl, false⟩ = ((((t ++ nm) ++ (⟨#[58]⟩ : ByteArray)) ++ vl) ++ (⟨#[59]⟩ : ByteArray)) := by
      unfold declT headD
      simp only [if_true, if_false, Bool.false_eq_true, app_assoc]
    go_wp2
    go_ret
    exact ⟨_, rfl, S4.out.nw, by rw [E]; exact S4.out.buf, S4.out.ex⟩
  | true =>
    go_wp2_with (at_builtin; (refine wp_byte _ rfl _ _ rfl w0.heap.size _ _ 32 rfl (S3.out.alloc _).buf _ rfl ?c1 ?c2 ?c3 ?_))
    case c1 => simp
    case c2 => first | omega | (simp only [size_app, e58, e32, e59, e10]; omega)
    case c3 => exact Below.size (S3.out.alloc _).nw
    intro v4 w4 b1 e1
    have S4 : Hid (St w v w0 w4 w.heap.size nm vl (.bool true) v4 ((((t ++ nm) ++ (⟨#[58]⟩ : ByteArray)) ++ vl) ++ (⟨#[32]⟩ : ByteArray))) := (S3.out.alloc _).ext e1 b1
    clear b1 e1
    have c0 := S4.out.c0; have c1 := S4.out.c1; have c2 := S4.out.c2
    go_wp2_with (at_builtin; (refine wp_text _ rfl _ _ rfl w0.heap.size _ _ rfl S4.out.buf (⟨#[33, 105, 109, 112, 111, 114, 116, 97, 110, 116]⟩ : ByteArray) rfl ?c1 ?c2 ?_))
    case c1 => first | omega | (simp only [size_app, e58, e32, e59, e10]; omega)
    case c2 => exact Below.size S4.out.nw
    intro v5 w5 b1 e1
    have S5 : Hid (St w v w0 w5 w.heap.size nm vl (.bool true) v5 (((((t ++ nm) ++ (⟨#[58]⟩ : ByteArray)) ++ vl) ++ (⟨#[32]⟩ : ByteArray)) ++ (⟨#[33, 105, 109, 112, 111, 114, 116, 97, 110, 116]⟩ : ByteArray))) := S4.out.ext e1 b1
    clear b1 e1
    have c0 := S5.out.c0; have c1 := S5.out.c1; have c2 := S5.out.c2
    go_wp2_with (at_builtin; (refine wp_byte _ rfl _ _ rfl w0.heap.size _ _ 59 rfl (S5.out.alloc _).buf _ rfl ?c1 ?c2 ?c3 ?_))
    case c1 => simp
    case c2 => first | omega | (simp only [size_app, e58, e32, e59, e10]; omega)
    case c3 => exact Below.size (S5.out.alloc _).nw
    intro v6 w6 b1 e1
    have S6 : Hid (St w v w0 w6 w.heap.size nm vl (.bool true) v6 ((((((t ++ nm) ++ (⟨#[58]⟩ : ByteArray)) ++ vl) ++ (⟨#[32]⟩ : ByteArray)) ++ (⟨#[33, 105, 109, 112, 111, 114, 116, 97, 110, 116]⟩ : ByteArray)) ++ (⟨#[59]⟩ : ByteArray))) := (S5.out.alloc _).ext e1 b1
    clear b1 e1
    have c0 := S6.out.c0; have c1 := S6.out.c1; have c2 := S6.out.c2
    have ei : impT = (⟨#[32]⟩ : ByteArray) ++ (⟨#[33, 105, 109, 112, 111, 114, 116, 97, 110, 116]⟩ : ByteArray) := by decide
    have E : t ++ declT ⟨nm, vl, true⟩ = ((((((t ++ nm) ++ (⟨#[58]⟩ : ByteArray)) ++ vl) ++ (⟨#[32]⟩ : ByteArray)) ++ (⟨#[33, 105, 109, 112, 111, 114, 116, 97, 110, 116]⟩ : ByteArray)) ++ (⟨#[59]⟩ : ByteArray)) := by
      unfold declT headD
      simp only [if_true, if_false, Bool.false_eq_true, app_assoc, ei]
    go_wp2
    go_ret
    exact ⟨_, rfl, S6.out.nw, by rw [E]; exact S6.out.buf, S6.out.ex⟩
end Go.Proofs.YtnkmdmmlpidcmaaGreatDoor
namespace Go.Proofs.YtnkmdmmlpidcmaaGreatDoor
open Go.ChangeShapes Go.WideShapes Go.ChangeAt Go.RowKit
set_option linter.unusedVariables false

/-- While a rule is written: the list v holds t, the rule's copy lies in the block g. -/
structure Sr (ws : World) (vs : Value) (w0 w : World) (g : Nat) (s1 s2 : Value) (v : Value) (t : ByteArray) : Prop where
  nw : Nw w0 w
  buf : Buf w w0.heap.size v t
  lt : g < w.heap.size
  ap : v.ownBlock ≠ some g
  c0 : w.cell? ⟨g, 0, none⟩ = some s1
  c1 : w.cell? ⟨g, 1, none⟩ = some s2
  ex : Ext vs v ws w
section
variable {ws : World} {vs : Value} {w0 w w' : World} {g : Nat} {s1 s2 v v' : Value} {t t' : ByteArray}
theorem Sr.ext (h : Sr ws vs w0 w g s1 s2 v t) (k : Ext v v' w w') (b : Buf w' w0.heap.size v' t') : Sr ws vs w0 w' g s1 s2 v' t' :=
  ⟨Below.trans h.nw (k.below (fun x e => (World.ownsRow.lt h.buf x e).1) (Below.size h.nw)), b, Nat.lt_of_lt_of_le h.lt k.size, k.apart h.lt h.ap, (k.cell h.lt h.ap 0).trans h.c0, (k.cell h.lt h.ap 1).trans h.c1, h.ex.trans k⟩
theorem Sr.nws (h : Sr ws vs w0 w g s1 s2 v t) (k : Nw w w') : Sr ws vs w0 w' g s1 s2 v t :=
  ⟨h.nw.trans k, h.buf.nw k, Nat.lt_of_lt_of_le h.lt (Below.size k), h.ap, ((bcell k).1 _ _ h.lt).trans h.c0, ((bcell k).1 _ _ h.lt).trans h.c1, h.ex.nw k⟩
theorem Sr.alloc (h : Sr ws vs w0 w g s1 s2 v t) (o : Obj) : Sr ws vs w0 (w.alloc o) g s1 s2 v t := h.nws ((Below.refl _ _).alloc (Nat.le_refl _) _)
theorem Sr.text (h : Sr ws vs w0 w g s1 s2 v t) (e : t = t') : Sr ws vs w0 w g s1 s2 v t' := e ▸ h
theorem Sr.begin (h : Nw w0 w) (b : Buf w w0.heap.size v t) (x : Ext vs v ws w) (T : TypeId) : Sr ws vs w0 (w.alloc (.cells #[s1, s2] T)) w.heap.size s1 s2 v t := by
  have k : Nw w (w.alloc (.cells #[s1, s2] T)) := (Below.refl _ _).alloc (Nat.le_refl _) _
  exact ⟨h.trans k, b.nw k, by simp, fun e => by have := (World.ownsRow.lt b _ e).2; omega, by simp, by simp, x.nw k⟩
end
theorem bulkSS_to (l : List (List PD)) (k : Nat) (hk : k ≤ l.length) (t : ByteArray) : (selsT t l k).size ≤ t.size + 2 * bulkSS l + l.length := by
  have h1 := (selsT_bulk t l k hk).1
  have h2 := bulkSS_le l k
  omega
theorem bulkDs_to (l : List DD) (k : Nat) (hk : k ≤ l.length) (t : ByteArray) : (declsT t l k).size ≤ t.size + bulkDs l + 13 * l.length := by
  have h1 := (declsT_bulk t l k hk).1
  have h2 := bulkDs_le l k
  omega
theorem bulkDs_at (l : List DD) (k : Nat) (hk : k < l.length) : bulkD (declAt l k) ≤ bulkDs l := by
  have h1 := bulkDs_step l k hk
  have h2 := bulkDs_le l (k + 1)
  omega
theorem ruleB_sels {r : RD} (h : ruleB r = true) (k : Nat) (hk : k < r.sels.length) : selB (selAt r.sels k) = true := by
  unfold ruleB at h
  simp only [Bool.and_eq_true] at h
  have := List.all_eq_true.1 h.2.1 r.sels[k] (List.getElem_mem hk)
  rwa [show selAt r.sels k = r.sels[k] by simp [selAt, hk]]

set_option maxHeartbeats 8000000 in
set_option maxRecDepth 100000 in
theorem iappRule (w0 w : World) (a1 a2 : Option Addr) (n1 n2 : Nat) (r : RD) (v : Value) (t : ByteArray) (hB : ruleB r = true) (h1 : Selss w0 a1 r.sels) (h2 : DeclsO w0 a2 r.decls) (hw : Nw w0 w) (hb : Buf w w0.heap.size v t) (ht : t.size + 2 * bulkR r ≤ 4000000) :
    Calls Tryz.prog 27 #[v, .agg #[.slice a1 r.sels.length n1, .slice a2 r.decls.length n2]] w fun e w' => ∃ v', e = .returned v' ∧ Nw w0 w' ∧ Buf w' w0.heap.size v' (ruleT t r) ∧ Ext v v' w w' := by
  have HS : Hid (Selss w0 a1 r.sels) := h1
  have HD : Hid (DeclsO w0 a2 r.decls) := h2
  have HP : Hid (∀ k, k < r.sels.length → selB (selAt r.sels k) = true) := ruleB_sels hB
  have hf := ruleB_few hB
  have S0 : Hid (Sr w v w0 (w.alloc (.cells #[.slice a1 r.sels.length n1, .slice a2 r.decls.length n2] 32)) w.heap.size (.slice a1 r.sels.length n1) (.slice a2 r.decls.length n2) v t) := Sr.begin hw hb (Ext.refl _ _) _
  have HT : Hid (ruleT t r = declsT (selsT t r.sels r.sels.length ++ (⟨#[123]⟩ : ByteArray)) r.decls r.decls.length ++ (⟨#[125]⟩ : ByteArray)) := rfl
  have hbk : t.size + 2 * bulkSS r.sels + 2 * r.sels.length + 2 * bulkDs r.decls + 2 * r.decls.length ≤ 4000000 := by unfold bulkR at ht; omega
  clear h1 h2 hb hw hB ht
  generalize hss : r.sels = ss at *
  generalize hdd : r.decls = dd at *
  clear hss hdd
  have e44 : (⟨#[44]⟩ : ByteArray).size = 1 := rfl
  have e123 : (⟨#[123]⟩ : ByteArray).size = 1 := rfl
  go_enter Tryz.func27, Tryz.ntmps27
  go_wp2
  go_loopw [0, 12] (fun x i wr => ∃ k : Nat, k ≤ ss.length ∧ i = .int .i64 k ∧ Sr w v w0 wr w.heap.size (.slice a1 ss.length n1) (.slice a2 dd.length n2) x (selsT t ss k)) (fun _ i _ => ss.length - (intOf i).toNat)
  case atStart => exact ⟨0, Nat.zero_le _, rfl, S0.out⟩
  case round =>
    obtain ⟨k, hk, rfl, hst⟩ := hrel
    obtain ⟨W1, hW1⟩ : ∃ W1, W1 = wr := ⟨_, rfl⟩
    subst hW1
    have S1 : Hid (Sr w v w0 W1 w.heap.size (.slice a1 ss.length n1) (.slice a2 dd.length n2) _ (selsT t ss k)) := hst
    have hnw := hst.nw
    clear hst
    have ys := bulkSS_to ss k hk t
    by_cases hlt : k < ss.length
    · rcases HS.out with h | ⟨b, off, rfl, hbk2, hc⟩
      · rw [h] at hlt; simp at hlt
      obtain ⟨aa, cc, q0, q1, q2⟩ := hc k hlt
      replace q0 := ((bcell hnw).1 _ _ hbk2).trans q0
      have hsel := (selB_iff _).1 (HP.out k hlt)
      have l5 := hsel.1.2
      have HQ : Hid (PsTo (selAt ss k) (selAt ss k).length) := hsel.2
      have HR : Hid (Parts w0 aa (selAt ss k)) := q2
      have HN : Hid (selsT t ss (k + 1) = commaT (selsT t ss k) k ++ selT (selAt ss k) (selAt ss k).length) := rfl
      clear hc hnw q2 hsel
      generalize selAt ss k = sel at *
      by_cases h0 : 0 < k
      · have HC : Hid (commaT (selsT t ss k) k = selsT t ss k ++ (⟨#[44]⟩ : ByteArray)) := by show _ = _; unfold commaT; rw [if_pos h0]
        go_wp2_with (at_builtin; (refine wp_byte _ rfl _ _ rfl w0.heap.size _ _ 44 rfl (S1.out.alloc _).buf _ rfl ?c1 ?c2 ?c3 ?_))
        case c1 => simp
        case c2 => omega
        case c3 => exact Below.size (S1.out.alloc _).nw
        intro v1 w1 b1 e1
        have S2 : Hid (Sr w v w0 w1 w.heap.size (.slice (some ⟨b, off, none⟩) ss.length n1) (.slice a2 dd.length n2) v1 (selsT t ss k ++ (⟨#[44]⟩ : ByteArray))) := (S1.out.alloc _).ext e1 b1
        clear b1 e1
        go_wp2_with (go_at_call 38; refine Calls.mono (iappSelX w0 _ aa cc sel _ _ l5 HQ.out HR.out S2.out.nw S2.out.buf (by rw [size_app, e44]; omega)) ?_; rintro e w2 ⟨v2, rfl, n2, b2, x2⟩; obtain ⟨S3⟩ : Nonempty (Hid (Sr w v w0 w2 w.heap.size (.slice (some ⟨b, off, none⟩) ss.length n1) (.slice a2 dd.length _) v2 (selsT t ss (k + 1)))) := ⟨by rw [HN.out, HC.out]; exact S2.out.ext x2 b2⟩; clear n2 b2 x2)
        go_roundw
        case rel => exact ⟨k + 1, by omega, by go_num, S3.out⟩
        case measure => simp [intOf]; omega
      · have HC : Hid (commaT (selsT t ss k) k = selsT t ss k) := by show _ = _; unfold commaT; rw [if_neg h0]
        go_wp2_with (go_at_call 38; refine Calls.mono (iappSelX w0 _ aa cc sel _ _ l5 HQ.out HR.out S1.out.nw S1.out.buf (by omega)) ?_; rintro e w2 ⟨v2, rfl, n2, b2, x2⟩; obtain ⟨S3⟩ : Nonempty (Hid (Sr w v w0 w2 w.heap.size (.slice (some ⟨b, off, none⟩) ss.length n1) (.slice a2 dd.length _) v2 (selsT t ss (k + 1)))) := ⟨by rw [HN.out, HC.out]; exact S1.out.ext x2 b2⟩; clear n2 b2 x2)
        go_roundw
        case rel => exact ⟨k + 1, by omega, by go_num, S3.out⟩
        case measure => simp [intOf]; omega
    · have e : k = ss.length := by omega
      subst e
      clear hnw HS
      generalize selsT t ss ss.length = X at *
      go_wp2_with (at_builtin; (refine wp_byte _ rfl _ _ rfl w0.heap.size _ _ 123 rfl (S1.out.alloc _).buf _ rfl ?c1 ?c2 ?c3 ?_))
      case c1 => simp
      case c2 => omega
      case c3 => exact Below.size (S1.out.alloc _).nw
      intro v1 w1 b1 e1
      have S2 : Hid (Sr w v w0 w1 w.heap.size (.slice a1 ss.length n1) (.slice a2 dd.length n2) v1 (X ++ (⟨#[123]⟩ : ByteArray))) := (S1.out.alloc _).ext e1 b1
      clear b1 e1
      have c0 := S2.out.c0; have c1 := S2.out.c1
      have yX : (X ++ (⟨#[123]⟩ : ByteArray)).size ≤ t.size + 2 * bulkSS ss + ss.length + 1 := by rw [size_app, e123]; omega
      generalize X ++ (⟨#[123]⟩ : ByteArray) = Y at *
      go_wp2
      go_loopw [0, 32] (fun x i wr => ∃ k : Nat, k ≤ dd.length ∧ i = .int .i64 k ∧ Sr w v w0 wr w.heap.size (.slice a1 ss.length n1) (.slice a2 dd.length n2) x (declsT Y dd k)) (fun _ i _ => dd.length - (intOf i).toNat)
      case atStart => exact ⟨0, Nat.zero_le _, rfl, S2.out⟩
      case round =>
        obtain ⟨m, hm, rfl, hst⟩ := hrel
        obtain ⟨W2, hW2⟩ : ∃ W2, W2 = wr := ⟨_, rfl⟩
        subst hW2
        have T1 : Hid (Sr w v w0 W2 w.heap.size (.slice a1 ss.length n1) (.slice a2 dd.length n2) _ (declsT Y dd m)) := hst
        have hnw := hst.nw
        clear hst
        have yd := bulkDs_to dd m hm Y
        by_cases hlm : m < dd.length
        · rcases HD.out with h | ⟨b, off, rfl, hbk2, hc⟩
          · rw [h] at hlm; simp at hlm
          obtain ⟨q0, q1, q2⟩ := hc m hlm
          replace q0 := ((bcell hnw).1 _ _ hbk2).trans q0
          replace q1 := ((bcell hnw).1 _ _ hbk2).trans q1
          replace q2 := ((bcell hnw).1 _ _ hbk2).trans q2
          have HN : Hid (declsT Y dd (m + 1) = declsT Y dd m ++ declT (declAt dd m)) := rfl
          have yb := bulkDs_at dd m hlm
          unfold bulkD at yb
          clear hc hnw
          generalize declAt dd m = d at *
          obtain ⟨nm, vl, im⟩ := d
          simp only at q0 q1 q2 yb
          have M1 : Hid (Nw W2 (W2.alloc (.cells #[.string nm, .string vl, .bool im] 36))) := (Below.refl _ _).alloc (Nat.le_refl _) _
          go_wp2_with (go_at_call 60; refine Calls.mono (iappDecl w0 _ ⟨nm, vl, im⟩ _ _ (by show nm.size ≤ _; omega) (by show vl.size ≤ _; omega) (T1.out.nws M1.out).nw (T1.out.nws M1.out).buf (by omega)) ?_; rintro e w2 ⟨v2, rfl, n2, b2, x2⟩; obtain ⟨T2⟩ : Nonempty (Hid (Sr w v w0 w2 w.heap.size (.slice a1 ss.length n1) (.slice (some ⟨b, off, none⟩) dd.length _) v2 (declsT Y dd (m + 1)))) := ⟨by rw [HN.out]; exact (T1.out.nws M1.out).ext x2 b2⟩; clear n2 b2 x2)
          go_roundw
          case rel => exact ⟨m + 1, by omega, by go_num, T2.out⟩
          case measure => simp [intOf]; omega
        · have e : m = dd.length := by omega
          subst e
          clear hnw HD
          go_wp2_with (at_builtin; (refine wp_byte _ rfl _ _ rfl w0.heap.size _ _ 125 rfl (T1.out.alloc _).buf _ rfl ?c1 ?c2 ?c3 ?_))
          case c1 => simp
          case c2 => omega
          case c3 => exact Below.size (T1.out.alloc _).nw
          intro v1 w1 b1 e1
          have T2 : Hid (Sr w v w0 w1 w.heap.size (.slice a1 ss.length n1) (.slice a2 dd.length n2) v1 (declsT Y dd dd.length ++ (⟨#[125]⟩ : ByteArray))) := (T1.out.alloc _).ext e1 b1
          clear b1 e1
          go_wp2
          go_ret
          exact ⟨_, rfl, T2.out.nw, by rw [HT.out]; exact T2.out.buf, T2.out.ex⟩
end Go.Proofs.YtnkmdmmlpidcmaaGreatDoor
namespace Go.Proofs.YtnkmdmmlpidcmaaGreatDoor
open Go.ChangeShapes Go.WideShapes Go.ChangeAt Go.RowKit
set_option linter.unusedVariables false

/-- What goodDecl answers. -/
def GdI : Prop := ∀ (w : World) (d : DD), d.nm.size ≤ 1048576 → d.vl.size ≤ 1048576 → Calls Tryz.prog 59 #[.agg #[.string d.nm, .string d.vl, .bool d.im]] w fun e w' => e = .returned (.bool (declB d)) ∧ Nw w w'
def SelsTo (l : List (List PD)) (k : Nat) : Prop := ∀ i, i < k → selB (selAt l i) = true
def DsTo (l : List DD) (k : Nat) : Prop := ∀ i, i < k → declB (declAt l i) = true
theorem SelsTo.step {l : List (List PD)} {k : Nat} (h : SelsTo l k) (e : selB (selAt l k) = true) : SelsTo l (k + 1) := by
  intro i hi
  by_cases c : i = k
  · subst c; exact e
  · exact h i (by omega)
theorem DsTo.step {l : List DD} {k : Nat} (h : DsTo l k) (e : declB (declAt l k) = true) : DsTo l (k + 1) := by
  intro i hi
  by_cases c : i = k
  · subst c; exact e
  · exact h i (by omega)
theorem ruleB_iff (r : RD) : ruleB r = true ↔ (0 < r.sels.length ∧ r.decls.length ≤ 12) ∧ SelsTo r.sels r.sels.length ∧ DsTo r.decls r.decls.length := by
  unfold ruleB SelsTo DsTo
  simp only [Bool.and_eq_true, decide_eq_true_eq, List.all_eq_true]
  constructor
  · rintro ⟨h, h1, h2⟩
    refine ⟨h, fun i hi => ?_, fun i hi => ?_⟩
    · rw [show selAt r.sels i = r.sels[i] by simp [selAt, hi]]; exact h1 _ (List.getElem_mem hi)
    · rw [show declAt r.decls i = r.decls[i] by simp [declAt, hi]]; exact h2 _ (List.getElem_mem hi)
  · rintro ⟨h, h1, h2⟩
    refine ⟨h, fun x hx => ?_, fun x hx => ?_⟩
    · obtain ⟨i, hi, rfl⟩ := List.getElem_of_mem hx
      have := h1 i hi
      rwa [show selAt r.sels i = r.sels[i] by simp [selAt, hi]] at this
    · obtain ⟨i, hi, rfl⟩ := List.getElem_of_mem hx
      have := h2 i hi
      rwa [show declAt r.decls i = r.decls[i] by simp [declAt, hi]] at this
theorem ruleB_no {r : RD} (h : ¬ ((0 < r.sels.length ∧ r.decls.length ≤ 12) ∧ SelsTo r.sels r.sels.length ∧ DsTo r.decls r.decls.length)) : ruleB r = false := by
  cases e : ruleB r with
  | false => rfl
  | true => exact absurd ((ruleB_iff r).1 e) h
/-- Sizes that a rule of a sheet has. -/
structure smR (r : RD) : Prop where
  a : r.sels.length ≤ 1048576
  b : ∀ i, i < r.sels.length → (selAt r.sels i).length ≤ 1048576 ∧ smallPs (selAt r.sels i)
  c : r.decls.length ≤ 1048576
  d : ∀ i, i < r.decls.length → (declAt r.decls i).nm.size ≤ 1048576 ∧ (declAt r.decls i).vl.size ≤ 1048576

set_option maxHeartbeats 8000000 in
set_option maxRecDepth 100000 in
theorem igoodRule (G : GdI) (w : World) (a1 a2 : Option Addr) (n1 n2 : Nat) (r : RD) (hz : smR r) (h1 : Selss w a1 r.sels) (h2 : DeclsO w a2 r.decls) :
    Calls Tryz.prog 26 #[.agg #[.slice a1 r.sels.length n1, .slice a2 r.decls.length n2]] w fun e w' => e = .returned (.bool (ruleB r)) ∧ Nw w w' := by
  obtain ⟨ss, dd⟩ := r
  obtain ⟨za, zb, zc, zd⟩ := hz
  simp only at h1 h2 za zb zc zd ⊢
  have HG : Hid GdI := G
  have HZB : Hid (∀ i, i < ss.length → (selAt ss i).length ≤ 1048576 ∧ smallPs (selAt ss i)) := zb
  have HZD : Hid (∀ i, i < dd.length → (declAt dd i).nm.size ≤ 1048576 ∧ (declAt dd i).vl.size ≤ 1048576) := zd
  have HS : Hid (Selss w a1 ss) := h1
  have HD : Hid (DeclsO w a2 dd) := h2
  have M0 : Hid (Nw w (w.alloc (.cells #[.slice a1 ss.length n1, .slice a2 dd.length n2] 32))) := (Below.refl _ _).alloc (Nat.le_refl _) _
  clear G zb zd h1 h2
  have gl : w.heap.size < (w.alloc (.cells #[.slice a1 ss.length n1, .slice a2 dd.length n2] 32)).heap.size := by simp
  have HG0 : Hid (w.heap.size < (w.alloc (.cells #[.slice a1 ss.length n1, .slice a2 dd.length n2] 32)).heap.size) := gl
  have HC0 : Hid ((w.alloc (.cells #[.slice a1 ss.length n1, .slice a2 dd.length n2] 32)).cell? ⟨w.heap.size, 0, none⟩ = some (.slice a1 ss.length n1) ∧ (w.alloc (.cells #[.slice a1 ss.length n1, .slice a2 dd.length n2] 32)).cell? ⟨w.heap.size, 1, none⟩ = some (.slice a2 dd.length n2)) := ⟨by simp, by simp⟩
  clear gl
  by_cases h0 : ss.length = 0
  · have HX : Hid (ruleB ⟨ss, dd⟩ = false) := ruleB_no fun h => by have := h.1.1; simp only at this; omega
    have hz : ((ss.length : Int) == 0) = true := by simp [h0]
    clear h0 za
    go_enter Tryz.func26, Tryz.ntmps26
    go_wp2
    go_ret
    exact ⟨ret_bool HX.out.symm, M0.out⟩
  have hz : ((ss.length : Int) == 0) = false := beq_eq_false_iff_ne.2 (by omega)
  by_cases h12 : 12 < dd.length
  · have HX : Hid (ruleB ⟨ss, dd⟩ = false) := ruleB_no fun h => by have := h.1.2; simp only at this; omega
    have h12 : 12 < (dd.length : Int) := by omega
    go_enter Tryz.func26, Tryz.ntmps26
    go_wp2
    go_ret
    exact ⟨ret_bool HX.out.symm, M0.out⟩
  have hfew : ¬ 12 < (dd.length : Int) := by omega
  go_enter Tryz.func26, Tryz.ntmps26
  go_wp2
  go_loopw [20] (fun i wr => ∃ k : Nat, k ≤ ss.length ∧ i = .int .i64 k ∧ SelsTo ss k ∧ Nw (w.alloc (.cells #[.slice a1 ss.length n1, .slice a2 dd.length n2] 32)) wr) (fun i _ => ss.length - (intOf i).toNat)
  case atStart => exact ⟨0, Nat.zero_le _, rfl, fun i hi => absurd hi (by omega), Below.refl _ _⟩
  case round =>
    obtain ⟨k, hk, rfl, hto, hw⟩ := hrel
    have HO : Hid (SelsTo ss k) := hto
    have HW : Hid (Nw (w.alloc (.cells #[.slice a1 ss.length n1, .slice a2 dd.length n2] 32)) wr) := hw
    have HW2 : Hid (Nw w wr) := M0.out.trans hw
    clear hto hw
    by_cases hlt : k < ss.length
    · rcases (HS.out.nw HW2.out) with h | ⟨b, off, rfl, hbk, hc⟩
      · rw [h] at hlt; simp at hlt
      obtain ⟨aa, cc, q0, q1, q2⟩ := hc k hlt
      obtain ⟨zl, zs⟩ := HZB.out k hlt
      have HQ : Hid (Parts wr aa (selAt ss k)) := q2
      have HZ : Hid (smallPs (selAt ss k)) := zs
      clear hc q2 zs
      by_cases hp : selB (selAt ss k) = true
      · have HK : Hid (selB (selAt ss k) = true) := hp
        clear hp
        go_wp2_with (go_at_call 37; refine Calls.mono (igoodSel _ _ _ _ zl HZ.out HQ.out) ?_; rw [HK.out]; rintro e w' ⟨rfl, k1⟩)
        go_roundw
        case rel => exact ⟨k + 1, by omega, by go_num, HO.out.step HK.out, HW.out.trans k1⟩
        case measure => simp [intOf]; omega
      · have HK : Hid (selB (selAt ss k) = false) := (by simpa using hp : _ = false)
        have HX : Hid (ruleB ⟨ss, dd⟩ = false) := ruleB_no fun h => hp (h.2.1 k hlt)
        clear hp
        go_wp2_with (go_at_call 37; refine Calls.mono (igoodSel _ _ _ _ zl HZ.out HQ.out) ?_; rw [HK.out]; rintro e w' ⟨rfl, k1⟩)
        go_ret
        exact ⟨ret_bool HX.out.symm, HW2.out.trans k1⟩
    · have HA : Hid (SelsTo ss ss.length) := fun i hi => HO.out i (by omega)
      have c1 := ((bcell HW.out).1 _ _ HG0.out).trans HC0.out.2
      obtain ⟨W1, hW1⟩ : ∃ W1, W1 = wr := ⟨_, rfl⟩
      subst hW1
      clear HO
      go_wp2
      go_loopw [31] (fun i wr => ∃ m : Nat, m ≤ dd.length ∧ i = .int .i64 m ∧ DsTo dd m ∧ Nw w wr) (fun i _ => dd.length - (intOf i).toNat)
      case atStart => exact ⟨0, Nat.zero_le _, rfl, fun i hi => absurd hi (by omega), HW2.out⟩
      case round =>
        obtain ⟨m, hm, rfl, hto, hw⟩ := hrel
        have HO : Hid (DsTo dd m) := hto
        have HV : Hid (Nw w wr) := hw
        clear hto
        by_cases hlm : m < dd.length
        · rcases (HD.out.nw hw) with h | ⟨b, off, rfl, hbk, hc⟩
          · rw [h] at hlm; simp at hlm
          obtain ⟨q0, q1, q2⟩ := hc m hlm
          obtain ⟨zl, zs⟩ := HZD.out m hlm
          clear hc hw
          have M1 : Hid (Nw wr (wr.alloc (.cells #[.string (declAt dd m).nm, .string (declAt dd m).vl, .bool (declAt dd m).im] 36))) := (Below.refl _ _).alloc (Nat.le_refl _) _
          by_cases hp : declB (declAt dd m) = true
          · have HK : Hid (declB (declAt dd m) = true) := hp
            clear hp
            go_wp2_with (go_at_call 59; refine Calls.mono (HG.out _ (declAt dd m) zl zs) ?_; rw [HK.out]; rintro e w' ⟨rfl, k1⟩)
            go_roundw
            case rel => exact ⟨m + 1, by omega, by go_num, HO.out.step HK.out, HV.out.trans (M1.out.trans k1)⟩
            case measure => simp [intOf]; omega
          · have HK : Hid (declB (declAt dd m) = false) := (by simpa using hp : _ = false)
            have HX : Hid (ruleB ⟨ss, dd⟩ = false) := ruleB_no fun h => hp (h.2.2 m hlm)
            clear hp
            go_wp2_with (go_at_call 59; refine Calls.mono (HG.out _ (declAt dd m) zl zs) ?_; rw [HK.out]; rintro e w' ⟨rfl, k1⟩)
            go_ret
            exact ⟨ret_bool HX.out.symm, HV.out.trans (M1.out.trans k1)⟩
        · have HX : Hid (ruleB ⟨ss, dd⟩ = true) := (ruleB_iff _).2 ⟨⟨by show 0 < ss.length; omega, by show dd.length ≤ 12; omega⟩, HA.out, fun i (hi : i < dd.length) => HO.out i (by omega)⟩
          clear hw
          go_wp2
          go_ret
          exact ⟨ret_bool HX.out.symm, HV.out⟩
end Go.Proofs.YtnkmdmmlpidcmaaGreatDoor
