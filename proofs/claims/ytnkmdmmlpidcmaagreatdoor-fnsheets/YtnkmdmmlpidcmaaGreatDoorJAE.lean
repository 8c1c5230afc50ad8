/-
  Words of sheets: the looks at a byte and at a text, the program's and the specification's; each theorem names its conditions.
  Parts that are good: the program's looks and the specification's; each theorem names its conditions.
  Words, parts and pieces of a text as lists of bytes and as texts: pure facts; each theorem names its conditions.
  Lists of texts of the call's own, to which texts are appended; each theorem names its conditions.
-/
import Derived.Test.YtnkmdmmlpidcmaaGreatDoorJAD
import Derived.Test.YtnkmdmmlpidcmaaGreatDoorJAA
import Derived.Laws.RangeAny
import Derived.Test.YtnkmdmmlpidcmaaGreatDoorJAC
import Derived.Laws.Externs
import Derived.Test.YtnkmdmmlpidcmaaGreatDoorJAB
namespace Go.Proofs.YtnkmdmmlpidcmaaGreatDoor
open Go.ChangeShapes Go.WideShapes Go.ChangeAt Go.RowKit
set_option linter.unusedVariables false

def startB (c : Int) : Bool := decide ((97 ≤ c ∧ c ≤ 122) ∨ (65 ≤ c ∧ c ≤ 90) ∨ c = 95 ∨ c = 45)
def wB (c : Int) : Bool := decide ((97 ≤ c ∧ c ≤ 122) ∨ (65 ≤ c ∧ c ≤ 90) ∨ c = 95 ∨ c = 45 ∨ (48 ≤ c ∧ c ≤ 57))
theorem sstart (w : World) (c : Int) (h0 : 0 ≤ c) (h1 : c ≤ 255) : Calls Tryz.prog 171 #[.int .u8 c] w fun e w' => e = .returned (.bool (startB c)) ∧ w' = w := by
  by_cases hf : firstB c = true
  · go_enter Tryz.func171, Tryz.ntmps171
    go_wp2_with (go_at_call 120; refine (sletter _ c h0 h1).mono ?_; rw [hf]; rintro e w' ⟨rfl, rfl⟩)
    go_ret
    exact ⟨ret_bool (by simp [firstB] at hf; rw [Bool.eq_iff_iff]; simp [startB]; omega), rfl⟩
  · have hf' : firstB c = false := by simpa using hf
    clear hf
    go_enter Tryz.func171, Tryz.ntmps171
    go_wp2_with (go_at_call 120; refine (sletter _ c h0 h1).mono ?_; rw [hf']; rintro e w' ⟨rfl, rfl⟩)
    all_goals
      go_ret
      exact ⟨ret_bool (by simp [firstB] at hf'; rw [Bool.eq_iff_iff]; simp [startB]; omega), rfl⟩
theorem swin (w : World) (c : Int) (h0 : 0 ≤ c) (h1 : c ≤ 255) : Calls Tryz.prog 145 #[.int .u8 c] w fun e w' => e = .returned (.bool (wB c)) ∧ w' = w := by
  by_cases hf : startB c = true
  · go_enter Tryz.func145, Tryz.ntmps145
    go_wp2_with (go_at_call 171; refine (sstart _ c h0 h1).mono ?_; rw [hf]; rintro e w' ⟨rfl, rfl⟩)
    go_ret
    exact ⟨ret_bool (by simp [startB] at hf; rw [Bool.eq_iff_iff]; simp [wB]; omega), rfl⟩
  · have hf' : startB c = false := by simpa using hf
    clear hf
    go_enter Tryz.func145, Tryz.ntmps145
    go_wp2_with (first | (go_at_call 171; refine (sstart _ c h0 h1).mono ?_; rw [hf']; rintro e w' ⟨rfl, rfl⟩) | (go_at_call 146; refine (sdigit _ c h0 h1).mono ?_; rintro e w' ⟨rfl, rfl⟩))
    all_goals
      go_ret
      exact ⟨ret_bool (by simp [startB] at hf'; rw [Bool.eq_iff_iff]; simp [wB, digB]; omega), rfl⟩
/-- A rune that may stand in a word. -/
theorem iwin (w : World) (c : Int) (h0 : 0 ≤ c) (h1 : c ≤ 2147483647) : Calls Tryz.prog 133 #[.int .i32 c] w fun e w' => e = .returned (.bool (wB c)) ∧ w' = w := by
  by_cases c1 : c < 128
  · have hm : c % 256 = c := by omega
    have hw : IntKind.wrap .u8 c = c := by simp [IntKind.wrap, IntKind.signed, IntKind.bits]; omega
    by_cases hf : letB c = true
    · go_enter Tryz.func133, Tryz.ntmps133
      go_wp2_with (first | (go_at_call 161; (try rw [hw]); refine (iletter _ c h0 (by omega)).mono ?_; rw [hf]; rintro e w' ⟨rfl, rfl⟩) | (go_at_call 132; (try rw [hw]); refine (idigit _ c h0 (by omega)).mono ?_; rintro e w' ⟨rfl, rfl⟩))
      all_goals
        go_ret
        exact ⟨ret_bool (by simp [letB] at hf; rw [Bool.eq_iff_iff]; simp [wB]; omega), rfl⟩
    · have hf' : letB c = false := by simpa using hf
      clear hf
      go_enter Tryz.func133, Tryz.ntmps133
      go_wp2_with (first | (go_at_call 161; (try rw [hw]); refine (iletter _ c h0 (by omega)).mono ?_; rw [hf']; rintro e w' ⟨rfl, rfl⟩) | (go_at_call 132; (try rw [hw]); refine (idigit _ c h0 (by omega)).mono ?_; rintro e w' ⟨rfl, rfl⟩))
      all_goals
        go_ret
        exact ⟨ret_bool (by simp [letB] at hf'; rw [Bool.eq_iff_iff]; simp [wB, digB]; omega), rfl⟩
  · go_enter Tryz.func133, Tryz.ntmps133
    go_wp2
    all_goals
      go_ret
      exact ⟨ret_bool (by rw [Bool.eq_iff_iff]; simp [wB]; omega), rfl⟩

def WordOk (s : ByteArray) : Prop := (1 ≤ s.size ∧ s.size ≤ 30) ∧ digB (bt s 0) = false ∧ ∀ i, i < s.size → wB (bt s i) = true
def wordB (s : ByteArray) : Bool := decide (1 ≤ s.size ∧ s.size ≤ 30) && (!digB (bt s 0) && (List.range s.size).all fun i => wB (bt s i))
theorem wordB_iff (s : ByteArray) : wordB s = true ↔ WordOk s := by
  unfold wordB WordOk
  rw [Bool.and_eq_true, Bool.and_eq_true, decide_eq_true_eq, List.all_eq_true]
  simp only [List.mem_range, Bool.not_eq_true']
theorem wordB_yes {s : ByteArray} (h : WordOk s) : wordB s = true := (wordB_iff s).2 h
theorem wordB_no {s : ByteArray} (h : ¬ WordOk s) : wordB s = false := by
  cases e : wordB s with
  | false => rfl
  | true => exact absurd ((wordB_iff s).1 e) h

/-- So many bytes at the front may stand in a word. -/
def IsLead (s : ByteArray) (n : Nat) : Prop := n ≤ s.size ∧ (∀ i, i < n → wB (bt s i) = true) ∧ (n < s.size → wB (bt s n) = false)
def runOf (s : ByteArray) (n : Nat) : Nat := if n = 0 ∨ digB (bt s 0) = true ∨ 30 < n then 0 else n
theorem runOf_yes {s : ByteArray} {n : Nat} (h0 : ¬ n = 0) (hd : digB (bt s 0) = false) (h : n ≤ 30) : runOf s n = n := by
  unfold runOf; rw [if_neg (by rw [hd]; simp; omega)]
theorem runOf_long {s : ByteArray} {n : Nat} (h : 30 < n) : runOf s n = 0 := by
  unfold runOf; rw [if_pos (Or.inr (Or.inr h))]
def RunSays (s : ByteArray) (e : Ending) : Prop := ∃ n, IsLead s n ∧ e = .returned (.int .i64 (runOf s n))
theorem RunSays.mk {s : ByteArray} {n : Nat} {x : Int} (h : IsLead s n) (e : x = (runOf s n : Nat)) : RunSays s (.returned (.int .i64 x)) := ⟨n, h, by rw [e]⟩
set_option maxHeartbeats 2000000 in
theorem srun (w : World) (s : ByteArray) (hs : s.size ≤ 1048576) : Calls Tryz.prog 105 #[.string s] w fun e w' => RunSays s e ∧ w' = w := by
  go_enter Tryz.func105, Tryz.ntmps105
  go_wp2
  go_loop [3] (fun i => ∃ k : Nat, k ≤ s.size ∧ i = .int .i64 k ∧ ∀ j, j < k → wB (bt s j) = true) (fun i => s.size - (intOf i).toNat)
  case atStart => exact ⟨0, Nat.zero_le _, rfl, fun j hj => absurd hj (by omega)⟩
  case round =>
    obtain ⟨k, hk, rfl, hin⟩ := hrel
    have HI : Hid (∀ j, j < k → wB (bt s j) = true) := hin
    clear hin
    have done : (k < s.size → wB (bt s k) = false) → IsLead s k := fun h => ⟨hk, HI.out, h⟩
    by_cases hlt : k < s.size
    · have hbk := bt_of s k hlt
      have hbdk := bt_bd s k
      rw [hbk] at hbdk
      by_cases hi : wB (bt s k) = true
      · have hi' : wB (s[k].toNat : Int) = true := by rw [← hbk]; exact hi
        have HJ : Hid (wB (bt s k) = true) := hi
        clear hbk hi done
        go_wp2_with (go_at_call 145; refine (swin _ _ hbdk.1 hbdk.2).mono ?_; rw [hi']; rintro e w' ⟨rfl, rfl⟩)
        go_round
        case rel =>
          refine ⟨k + 1, by omega, by go_num, fun j hj => ?_⟩
          by_cases e : j = k
          · rw [e]; exact HJ.out
          · exact HI.out j (by omega)
        case measure => simp [intOf]; omega
      · have hi' : wB (s[k].toNat : Int) = false := by rw [← hbk]; simpa using hi
        have HD : Hid (IsLead s k) := done fun _ => by simpa using hi
        clear hbk hi done
        have h0 : 0 < s.size := by omega
        have hb0 := bt_of s 0 h0
        have hbd0 := bt_bd s 0
        rw [hb0] at hbd0
        have HB : Hid (bt s 0 = (s[0].toNat : Int)) := hb0
        clear hb0
        by_cases k0 : k = 0
        · subst k0
          go_wp2_with (go_at_call 145; refine (swin _ _ hbdk.1 hbdk.2).mono ?_; rw [hi']; rintro e w' ⟨rfl, rfl⟩)
          go_ret
          exact ⟨RunSays.mk HD.out (by simp [runOf]), rfl⟩
        · by_cases hd : digB (s[0].toNat : Int) = true
          · go_wp2_with (first | (go_at_call 145; refine (swin _ _ hbdk.1 hbdk.2).mono ?_; rw [hi']; rintro e w' ⟨rfl, rfl⟩) | (go_at_call 146; refine (sdigit _ _ hbd0.1 hbd0.2).mono ?_; rw [hd]; rintro e w' ⟨rfl, rfl⟩))
            go_ret
            exact ⟨RunSays.mk HD.out (by simp [runOf, HB.out, hd]), rfl⟩
          · have hd' : digB (s[0].toNat : Int) = false := by simpa using hd
            have hkb : ((k : Int) == 0) = false := by simp; omega
            go_wp2_with (first | (go_at_call 145; refine (swin _ _ hbdk.1 hbdk.2).mono ?_; rw [hi']; rintro e w' ⟨rfl, rfl⟩) | (go_at_call 146; refine (sdigit _ _ hbd0.1 hbd0.2).mono ?_; rw [hd']; rintro e w' ⟨rfl, rfl⟩))
            all_goals
              go_ret
              exact ⟨RunSays.mk HD.out (by first | (rw [runOf_yes k0 (by rw [HB.out]; exact hd') (by omega)]; done) | (rw [runOf_long (by omega)]; rfl)), rfl⟩
    · have HD : Hid (IsLead s k) := done fun h => absurd h hlt
      clear done
      by_cases k0 : k = 0
      · subst k0
        obtain rfl := empty_of (s := s) (by omega)
        go_wp2
        go_ret
        exact ⟨RunSays.mk HD.out (by simp [runOf]), rfl⟩
      · have h0 : 0 < s.size := by omega
        have hb0 := bt_of s 0 h0
        have hbd0 := bt_bd s 0
        rw [hb0] at hbd0
        have HB : Hid (bt s 0 = (s[0].toNat : Int)) := hb0
        clear hb0
        by_cases hd : digB (s[0].toNat : Int) = true
        · go_wp2_with (go_at_call 146; refine (sdigit _ _ hbd0.1 hbd0.2).mono ?_; rw [hd]; rintro e w' ⟨rfl, rfl⟩)
          go_ret
          exact ⟨RunSays.mk HD.out (by simp [runOf, HB.out, hd]), rfl⟩
        · have hd' : digB (s[0].toNat : Int) = false := by simpa using hd
          have hkb : ((k : Int) == 0) = false := by simp; omega
          go_wp2_with (go_at_call 146; refine (sdigit _ _ hbd0.1 hbd0.2).mono ?_; rw [hd']; rintro e w' ⟨rfl, rfl⟩)
          all_goals
            go_ret
            exact ⟨RunSays.mk HD.out (by first | (rw [runOf_yes k0 (by rw [HB.out]; exact hd') (by omega)]; done) | (rw [runOf_long (by omega)]; rfl)), rfl⟩
theorem run_word {s : ByteArray} {n : Nat} (h : IsLead s n) (hs : 0 < s.size) : (decide (runOf s n = s.size)) = wordB s := by
  obtain ⟨h1, h2, h3⟩ := h
  rw [Bool.eq_iff_iff, decide_eq_true_eq, wordB_iff]
  unfold runOf WordOk
  constructor
  · intro e
    split at e
    · omega
    · rename_i hn
      subst e
      refine ⟨by omega, ?_, h2⟩
      cases hd : digB (bt s 0) with
      | false => rfl
      | true => exact absurd (Or.inr (Or.inl hd)) hn
  · intro ⟨e1, e2, e3⟩
    have hn : n = s.size := by
      rcases Nat.lt_or_ge n s.size with c | c
      · have := e3 n c; rw [h3 c] at this; cases this
      · omega
    rw [if_neg (by rw [e2]; simp; omega)]
    exact hn
theorem sword (w : World) (s : ByteArray) (hs : s.size ≤ 1048576) : Calls Tryz.prog 64 #[.string s] w fun e w' => e = .returned (.bool (wordB s)) ∧ w' = w := by
  by_cases h0 : 0 < s.size
  · go_enter Tryz.func64, Tryz.ntmps64
    go_wp2_with (go_at_call 105; refine (srun _ s hs).mono ?_; rintro e w' ⟨⟨n, hl, rfl⟩, rfl⟩; have hq := run_word hl h0)
    go_ret
    refine ⟨ret_bool ?_, rfl⟩
    rw [← hq, Bool.eq_iff_iff]
    simp
    omega
  · have HX : Hid (wordB s = false) := wordB_no fun h => h0 (by have := h.1; omega)
    go_enter Tryz.func64, Tryz.ntmps64
    go_wp2
    go_ret
    exact ⟨ret_bool HX.out.symm, rfl⟩

set_option maxHeartbeats 2000000 in
theorem iword (w : World) (s : ByteArray) (hs : s.size ≤ 1048576) : Calls Tryz.prog 100 #[.string s] w fun e w' => e = .returned (.bool (wordB s)) ∧ Nw w w' := by
  by_cases h0 : 0 < s.size
  · have hn1 := ne_nil (s := s) h0
    have hn2 := ne_emp (s := s) h0
    by_cases h30 : s.size ≤ 30
    · have hb0 := bt_of s 0 h0
      have hbd0 := bt_bd s 0
      rw [hb0] at hbd0
      by_cases hd : digB (s[0].toNat : Int) = true
      · have HX : Hid (wordB s = false) := wordB_no fun h => by have := h.2.1; rw [hb0, hd] at this; cases this
        clear hb0
        go_enter Tryz.func100, Tryz.ntmps100
        go_wp2_with (go_at_call 132; refine (idigit _ _ hbd0.1 hbd0.2).mono ?_; rw [hd]; rintro e w' ⟨rfl, hq⟩; have hq2 := hq.symm; clear hq; subst hq2)
        go_ret
        exact ⟨ret_bool HX.out.symm, Below.refl _ _⟩
      · have hd' : digB (s[0].toNat : Int) = false := by simpa using hd
        have HD : Hid (digB (bt s 0) = false) := by rw [hb0]; exact hd'
        clear hb0 hd
        go_enter Tryz.func100, Tryz.ntmps100
        go_wp2_with (go_at_call 132; refine (idigit _ _ hbd0.1 hbd0.2).mono ?_; rw [hd']; rintro e w' ⟨rfl, hq⟩; have hq2 := hq.symm; clear hq; subst hq2)
        go_loopw [] (fun wr => ∃ pos : Nat, pos ≤ s.size ∧ (∀ j, j < pos → wB (bt s j) = true) ∧ wr = w.iter s pos) (fun wr => s.size - wr.iterPos w.heap.size)
        case atStart => exact ⟨0, Nat.zero_le _, fun j hj => absurd hj (by omega), rfl⟩
        case round =>
          obtain ⟨pos, hp, hin, rfl⟩ := hrel
          have HI : Hid (∀ j, j < pos → wB (bt s j) = true) := hin
          clear hin
          by_cases hlt : pos < s.size
          · have hbk := bt_of s pos hlt
            by_cases ha : (s[pos]'hlt).toNat < 128
            · have hnx : ∀ ty, (Instr.next (.pointer (some ⟨w.heap.size, 0, none⟩)) true ty).run Tryz.prog (w.iter s pos) = .ok (.tuple #[.bool true, .int .i64 pos, .int .i32 ((s[pos]'hlt).toNat : Int)]) (w.iter s (pos + 1)) := fun ty => by
                have := run_next_any (P := Tryz.prog) w s pos ty hlt
                rw [decode_ascii s pos hlt ha] at this
                exact this
              by_cases hi : wB ((s[pos]'hlt).toNat : Int) = true
              · have HJ : Hid (wB (bt s pos) = true) := by rw [hbk]; exact hi
                clear hbk
                generalize (s[pos]'hlt).toNat = x at *
                go_wp2_with (go_at_call 133; refine (iwin _ _ (by omega) (by omega)).mono ?_; rw [hi]; rintro e w' ⟨rfl, hq⟩; have hq2 := hq.symm; clear hq; subst hq2)
                go_roundw
                case rel =>
                  refine ⟨pos + 1, by omega, fun j hj => ?_, rfl⟩
                  by_cases e : j = pos
                  · rw [e]; exact HJ.out
                  · exact HI.out j (by omega)
                case measure => simp; omega
              · have hi' : wB ((s[pos]'hlt).toNat : Int) = false := by simpa using hi
                have HX : Hid (wordB s = false) := wordB_no fun h => by have := h.2.2 pos hlt; rw [hbk, hi'] at this; cases this
                clear hbk hi
                generalize (s[pos]'hlt).toNat = x at *
                go_wp2_with (go_at_call 133; refine (iwin _ _ (by omega) (by omega)).mono ?_; rw [hi']; rintro e w' ⟨rfl, hq⟩; have hq2 := hq.symm; clear hq; subst hq2)
                go_ret
                exact ⟨ret_bool HX.out.symm, (Below.refl _ _).alloc (Nat.le_refl _) _⟩
            · obtain ⟨hh, _⟩ := decode_high s pos hlt (by omega)
              have hle := decode_le s pos
              have hnx := fun ty => run_next_any (P := Tryz.prog) w s pos ty hlt
              have hi' : wB (bt s pos) = false := by rw [hbk]; simp [wB]; omega
              have HX : Hid (wordB s = false) := wordB_no fun h => by have := h.2.2 pos hlt; rw [hi'] at this; cases this
              have hi2 : wB ((Utf8.decode s pos).1 : Int) = false := by simp [wB]; omega
              clear hbk hi'
              generalize (Utf8.decode s pos).1 = x at *
              generalize pos + (Utf8.decode s pos).2 = y at *
              go_wp2_with (go_at_call 133; refine (iwin _ _ (by omega) (by omega)).mono ?_; rw [hi2]; rintro e w' ⟨rfl, hq⟩; have hq2 := hq.symm; clear hq; subst hq2)
              go_ret
              exact ⟨ret_bool HX.out.symm, (Below.refl _ _).alloc (Nat.le_refl _) _⟩
          · have hnx := fun ty => run_next_end (P := Tryz.prog) w s pos ty hlt
            have e : pos = s.size := by omega
            have HX : Hid (wordB s = true) := wordB_yes ⟨by omega, HD.out, fun i hi => HI.out i (by omega)⟩
            clear e
            go_wp2
            go_ret
            exact ⟨ret_bool HX.out.symm, (Below.refl _ _).alloc (Nat.le_refl _) _⟩
    · have HX : Hid (wordB s = false) := wordB_no fun h => h30 h.1.2
      go_enter Tryz.func100, Tryz.ntmps100
      go_wp2
      go_ret
      exact ⟨ret_bool HX.out.symm, Below.refl _ _⟩
  · have HX : Hid (wordB s = false) := wordB_no fun h => h0 (by have := h.1; omega)
    obtain rfl := empty_of (s := s) (by omega)
    go_enter Tryz.func100, Tryz.ntmps100
    go_wp2
    go_ret
    exact ⟨ret_bool HX.out.symm, Below.refl _ _⟩
end Go.Proofs.YtnkmdmmlpidcmaaGreatDoor
namespace Go.Proofs.YtnkmdmmlpidcmaaGreatDoor
open Go.ChangeShapes Go.WideShapes Go.ChangeAt Go.RowKit
set_option linter.unusedVariables false

def typeB (t : ByteArray) : Bool := t.toList.isEmpty || (t.toList == [42]) || wordB t
def idB (t : ByteArray) : Bool := t.toList.isEmpty || wordB t
def ClsTo (l : List ByteArray) (k : Nat) : Prop := ∀ i, i < k → wordB (strAt l i) = true
def clsB (l : List ByteArray) : Bool := (List.range l.length).all fun i => wordB (strAt l i)
theorem clsB_iff (l : List ByteArray) : clsB l = true ↔ ClsTo l l.length := by
  unfold clsB ClsTo
  rw [List.all_eq_true]
  simp only [List.mem_range]
theorem ClsTo.step {l : List ByteArray} {k : Nat} (h : ClsTo l k) (e : wordB (strAt l k) = true) : ClsTo l (k + 1) := by
  intro i hi
  by_cases c : i = k
  · subst c; exact e
  · exact h i (by omega)
theorem clsB_no {l : List ByteArray} {k : Nat} (hk : k < l.length) (e : wordB (strAt l k) = false) : clsB l = false := by
  cases h : clsB l with
  | false => rfl
  | true => have := (clsB_iff l).1 h k hk; rw [e] at this; cases this
def someB (p : PD) : Bool := !p.ty.toList.isEmpty || !p.id.toList.isEmpty || decide (0 < p.cls.length)
def partB (p : PD) : Bool := decide (p.cls.length ≤ 4) && (clsB p.cls && (typeB p.ty && (idB p.id && someB p)))
structure smallP (p : PD) : Prop where
  ty : p.ty.size ≤ 1048576
  id : p.id.size ≤ 1048576
  len : p.cls.length ≤ 1048576
  cls : ∀ i, i < p.cls.length → (strAt p.cls i).size ≤ 1048576
/-- The four ways of a type. -/
def TyWay (t : ByteArray) (b : Bool) : Prop := (t = ⟨#[]⟩ ∧ b = true) ∨ (t = ⟨#[42]⟩ ∧ b = true) ∨ ((¬ t.toList = []) ∧ t.toList.isEmpty = false ∧ (t.toList == [42]) = false ∧ wordB t = b)
theorem tyWay (t : ByteArray) : TyWay t (typeB t) := by
  by_cases h0 : t.size = 0
  · obtain rfl := empty_of h0
    exact Or.inl ⟨rfl, by simp [typeB, ByteArray.toList_eq]⟩
  · have n1 := ne_nil (s := t) (by omega)
    have n2 := ne_emp (s := t) (by omega)
    by_cases h1 : t = ⟨#[42]⟩
    · subst h1
      exact Or.inr (Or.inl ⟨rfl, by simp [typeB, ByteArray.toList_eq]⟩)
    · have n3 : (t.toList == [42]) = false := by
        have e : ([42] : List UInt8) = (⟨#[42]⟩ : ByteArray).toList := by rw [ByteArray.toList_eq]
        rw [e]
        exact (Lib.bytes_beq_false_iff _ _).2 h1
      refine Or.inr (Or.inr ⟨n1, n2, n3, ?_⟩)
      unfold typeB
      rw [n2, n3]; simp
def IdWay (t : ByteArray) (b : Bool) : Prop := (t = ⟨#[]⟩ ∧ b = true) ∨ ((¬ t.toList = []) ∧ t.toList.isEmpty = false ∧ wordB t = b)
theorem idWay (t : ByteArray) : IdWay t (idB t) := by
  by_cases h0 : t.size = 0
  · obtain rfl := empty_of h0
    exact Or.inl ⟨rfl, by simp [idB, ByteArray.toList_eq]⟩
  · have n1 := ne_nil (s := t) (by omega)
    have n2 := ne_emp (s := t) (by omega)
    refine Or.inr ⟨n1, n2, ?_⟩
    unfold idB
    rw [n2]; simp

set_option maxHeartbeats 8000000 in
theorem igoodPart (w : World) (ty id : ByteArray) (cls : List ByteArray) (a : Option Addr) (c : Nat) (hz : smallP ⟨ty, id, cls⟩) (hr : Strs w a cls) :
    Calls Tryz.prog 74 #[.agg #[.string ty, .string id, .slice a cls.length c]] w fun e w' => e = .returned (.bool (partB ⟨ty, id, cls⟩)) ∧ Nw w w' := by
  obtain ⟨z1, z2, z3, z4⟩ := hz
  simp only at z1 z2 z3 z4
  have HR : Hid (Strs w a cls) := hr
  have HZ : Hid (∀ i, i < cls.length → (strAt cls i).size ≤ 1048576) := z4
  clear hr z4
  by_cases h4 : cls.length ≤ 4
  · go_enter Tryz.func74, Tryz.ntmps74
    go_wp2
    go_loopw [15] (fun i wr => ∃ k : Nat, k ≤ cls.length ∧ i = .int .i64 k ∧ ClsTo cls k ∧ Nw w wr ∧ w.heap.size < wr.heap.size ∧ wr.cell? ⟨w.heap.size, 0, none⟩ = some (.string ty) ∧ wr.cell? ⟨w.heap.size, 1, none⟩ = some (.string id) ∧ wr.cell? ⟨w.heap.size, 2, none⟩ = some (.slice a cls.length c)) (fun i _ => cls.length - (intOf i).toNat)
    case atStart => exact ⟨0, Nat.zero_le _, rfl, fun i hi => absurd hi (by omega), (Below.refl _ _).alloc (Nat.le_refl _) _, by simp, by simp, by simp, by simp⟩
    case round =>
      obtain ⟨k, hk, rfl, hto, hw, hbx, c0, c1, c2⟩ := hrel
      have HO : Hid (ClsTo cls k) := hto
      have HW : Hid (Nw w wr) := hw
      clear hto
      by_cases hlt : k < cls.length
      · rcases (HR.out.nw hw) with h | ⟨b, o, rfl, hb, hc⟩
        · rw [h] at hlt; simp at hlt
        have q0 := hc k hlt
        have y1 := HZ.out k hlt
        clear hc hw
        by_cases hwd : wordB (strAt cls k) = true
        · have HK : Hid (wordB (strAt cls k) = true) := hwd
          have C0 : Hid (wr.cell? ⟨w.heap.size, 0, none⟩ = some (.string ty) ∧ wr.cell? ⟨w.heap.size, 1, none⟩ = some (.string id) ∧ wr.cell? ⟨w.heap.size, 2, none⟩ = some (.slice (some ⟨b, o, none⟩) cls.length c)) := ⟨c0, c1, c2⟩
          clear c0 c1 c2
          go_wp2_with (go_at_call 100; refine (iword _ _ y1).mono ?_; rw [hwd]; rintro e w' ⟨rfl, k1⟩)
          go_roundw
          case rel =>
            obtain ⟨hc, _⟩ := bcell k1
            exact ⟨k + 1, by omega, by go_num, HO.out.step HK.out, HW.out.trans k1, Nat.lt_of_lt_of_le hbx (Below.size k1), (hc _ _ hbx).trans C0.out.1, (hc _ _ hbx).trans C0.out.2.1, (hc _ _ hbx).trans C0.out.2.2⟩
          case measure => simp [intOf]; omega
        · have hwd' : wordB (strAt cls k) = false := by simpa using hwd
          have HX : Hid (partB ⟨ty, id, cls⟩ = false) := by show partB _ = false; unfold partB; rw [clsB_no hlt hwd']; simp
          clear c0 c1 c2
          go_wp2_with (go_at_call 100; refine (iword _ _ y1).mono ?_; rw [hwd']; rintro e w' ⟨rfl, k1⟩)
          go_ret
          exact ⟨ret_bool HX.out.symm, HW.out.trans k1⟩
      · have hcl : clsB cls = true := (clsB_iff cls).2 fun i hi => HO.out i (by omega)
        have HP : Hid (partB ⟨ty, id, cls⟩ = (typeB ty && (idB id && someB ⟨ty, id, cls⟩))) := by
          show partB _ = _
          unfold partB; simp only; rw [hcl]; simp [h4]
        clear hcl hw
        have ht := tyWay ty
        have hd := idWay id
        unfold someB at HP
        simp only at HP
        generalize typeB ty = tb at *
        generalize idB id = ib at *
        rcases ht with ⟨rfl, rfl⟩ | ⟨rfl, rfl⟩ | ⟨t1, t2, t3, rfl⟩
        all_goals rcases hd with ⟨rfl, rfl⟩ | ⟨d1, d2, rfl⟩
        all_goals
          have hp := HP.out
          try rw [t2] at hp
          try rw [d2] at hp
          simp [ByteArray.toList_eq] at hp
          have HP2 : Hid _ := hp
          clear hp HP
          go_wp2_with (go_at_call 100; refine (iword _ _ (by assumption)).mono ?_; rintro e w' ⟨rfl, k1⟩; obtain ⟨hc, hf⟩ := bcell k1; first | (have hb2 := Nat.lt_of_lt_of_le hb1 (Below.size k1); have HM2 : Hid (Nw w w') := HM.out.trans k1) | (have hb1 := Nat.lt_of_lt_of_le hbx (Below.size k1); have HM : Hid (Nw w w') := HW.out.trans k1))
          all_goals
            go_ret
            refine ⟨ret_bool ?_, by first | exact HM2.out | exact HM.out | exact HW.out⟩
            rw [HP2.out]
            first | rfl | (simp; done) | (rename_i hq; simp [hq]; done) | (rename_i hq1 hq2; simp [hq1, hq2]; done) | trace_state
  · have HX : Hid (partB ⟨ty, id, cls⟩ = false) := by show partB _ = false; unfold partB; simp only; rw [decide_eq_false h4]; simp
    go_enter Tryz.func74, Tryz.ntmps74
    go_wp2
    go_ret
    exact ⟨ret_bool HX.out.symm, (Below.refl _ _).alloc (Nat.le_refl _) _⟩

set_option maxHeartbeats 8000000 in
theorem sgoodPart (w : World) (ty id : ByteArray) (cls : List ByteArray) (a : Option Addr) (c : Nat) (hz : smallP ⟨ty, id, cls⟩) (hr : Strs w a cls) :
    Calls Tryz.prog 62 #[.agg #[.string ty, .string id, .slice a cls.length c]] w fun e w' => e = .returned (.bool (partB ⟨ty, id, cls⟩)) ∧ Nw w w' := by
  obtain ⟨z1, z2, z3, z4⟩ := hz
  simp only at z1 z2 z3 z4
  have HR : Hid (Strs w a cls) := hr
  have HZ : Hid (∀ i, i < cls.length → (strAt cls i).size ≤ 1048576) := z4
  clear hr z4
  have ht := tyWay ty
  have hd := idWay id
  by_cases bt : typeB ty = true
  · by_cases bi : idB id = true
    · by_cases h4 : cls.length ≤ 4
      · have HP : Hid (partB ⟨ty, id, cls⟩ = (clsB cls && someB ⟨ty, id, cls⟩)) := by
          show partB _ = _
          unfold partB; simp only; rw [bt, bi]; simp [h4]
        rw [bt] at ht
        rw [bi] at hd
        unfold someB at HP
        simp only at HP
        clear bt bi
        have hwn : Nw w (w.alloc (.cells #[.string ty, .string id, .slice a cls.length c] 67)) := (Below.refl _ _).alloc (Nat.le_refl _) _
        have HR2 : Hid (Strs (w.alloc (.cells #[.string ty, .string id, .slice a cls.length c] 67)) a cls) := HR.out.nw hwn
        have HW : Hid (Nw w (w.alloc (.cells #[.string ty, .string id, .slice a cls.length c] 67))) := hwn
        clear hwn HR
        rcases ht with ⟨rfl, _⟩ | ⟨rfl, _⟩ | ⟨t1, t2, t3, t4⟩
        all_goals rcases hd with ⟨rfl, _⟩ | ⟨d1, d2, d3⟩
        all_goals
          have hp := HP.out
          try rw [t2] at hp
          try rw [d2] at hp
          simp [ByteArray.toList_eq] at hp
          have HP2 : Hid _ := hp
          clear hp HP
          go_enter Tryz.func62, Tryz.ntmps62
          go_wp2_with (go_at_call 64; refine (sword _ _ (by assumption)).mono ?_; (first | rw [t4] | rw [d3]); rintro e w' ⟨rfl, rfl⟩)
          go_loop [39] (fun i => ∃ k : Nat, k ≤ cls.length ∧ i = .int .i64 k ∧ ClsTo cls k) (fun i => cls.length - (intOf i).toNat)
          case atStart => exact ⟨0, Nat.zero_le _, rfl, fun i hi => absurd hi (by omega)⟩
          case round =>
            obtain ⟨k, hk, rfl, hto⟩ := hrel
            have HO : Hid (ClsTo cls k) := hto
            clear hto
            by_cases hlt : k < cls.length
            · rcases HR2.out with h | ⟨b, o, rfl, hb, hc⟩
              · rw [h] at hlt; simp at hlt
              have q0 := hc k hlt
              have y1 := HZ.out k hlt
              clear hc hb HR2
              by_cases hwd : wordB (strAt cls k) = true
              · have HK : Hid (wordB (strAt cls k) = true) := hwd
                go_wp2_with (go_at_call 64; refine (sword _ _ y1).mono ?_; rw [hwd]; rintro e w' ⟨rfl, rfl⟩)
                go_round
                case rel => exact ⟨k + 1, by omega, by go_num, HO.out.step HK.out⟩
                case measure => simp [intOf]; omega
              · have hwd' : wordB (strAt cls k) = false := by simpa using hwd
                go_wp2_with (go_at_call 64; refine (sword _ _ y1).mono ?_; rw [hwd']; rintro e w' ⟨rfl, rfl⟩)
                go_ret
                exact ⟨ret_bool (by rw [HP2.out, clsB_no hlt hwd']; first | done | simp), HW.out⟩
            · have HX : Hid (clsB cls = true) := (clsB_iff cls).2 fun i hi => HO.out i (by omega)
              clear HR2
              go_wp2
              all_goals
                go_ret
                refine ⟨ret_bool ?_, HW.out⟩
                rw [HP2.out, HX.out]
                first | rfl | (simp; done) | (rename_i hq; simp [hq]; done) | trace_state
      · have HX : Hid (partB ⟨ty, id, cls⟩ = false) := by
          show partB _ = false
          unfold partB; simp only; rw [decide_eq_false h4]; simp
        rw [bt] at ht
        rw [bi] at hd
        clear HR HZ bt bi
        rcases ht with ⟨rfl, _⟩ | ⟨rfl, _⟩ | ⟨t1, t2, t3, t4⟩
        all_goals rcases hd with ⟨rfl, _⟩ | ⟨d1, d2, d3⟩
        all_goals
          go_enter Tryz.func62, Tryz.ntmps62
          go_wp2_with (go_at_call 64; refine (sword _ _ (by assumption)).mono ?_; (first | rw [t4] | rw [d3]); rintro e w' ⟨rfl, rfl⟩)
          go_ret
          exact ⟨ret_bool HX.out.symm, (Below.refl _ _).alloc (Nat.le_refl _) _⟩
    · have bi' : idB id = false := by simpa using bi
      have HX : Hid (partB ⟨ty, id, cls⟩ = false) := by
        show partB _ = false
        unfold partB; simp only; rw [bi']; simp
      rw [bt] at ht
      rw [bi'] at hd
      clear HR HZ bt bi bi'
      rcases hd with ⟨_, h⟩ | ⟨d1, d2, d3⟩
      · cases h
      rcases ht with ⟨rfl, _⟩ | ⟨rfl, _⟩ | ⟨t1, t2, t3, t4⟩
      all_goals
        go_enter Tryz.func62, Tryz.ntmps62
        go_wp2_with (go_at_call 64; refine (sword _ _ (by assumption)).mono ?_; (first | rw [t4] | rw [d3]); rintro e w' ⟨rfl, rfl⟩)
        go_ret
        exact ⟨ret_bool HX.out.symm, (Below.refl _ _).alloc (Nat.le_refl _) _⟩
  · have bt' : typeB ty = false := by simpa using bt
    have HX : Hid (partB ⟨ty, id, cls⟩ = false) := by
      show partB _ = false
      unfold partB; simp only; rw [bt']; simp
    rw [bt'] at ht
    clear HR HZ bt bt' hd
    rcases ht with ⟨_, h⟩ | ⟨_, h⟩ | ⟨t1, t2, t3, t4⟩
    · cases h
    · cases h
    go_enter Tryz.func62, Tryz.ntmps62
    go_wp2_with (go_at_call 64; refine (sword _ _ (by assumption)).mono ?_; rw [t4]; rintro e w' ⟨rfl, rfl⟩)
    go_ret
    exact ⟨ret_bool HX.out.symm, (Below.refl _ _).alloc (Nat.le_refl _) _⟩
end Go.Proofs.YtnkmdmmlpidcmaaGreatDoor
namespace Go.Proofs.YtnkmdmmlpidcmaaGreatDoor
open Go.ChangeShapes Go.WideShapes Go.ChangeAt Go.RowKit
set_option linter.unusedVariables false

/-- A text out of its bytes. -/
def bA (l : List UInt8) : ByteArray := ⟨l.toArray⟩
theorem bA_data (s : ByteArray) : bA s.data.toList = s := by cases s; simp [bA]
theorem bA_list (l : List UInt8) : (bA l).data.toList = l := by simp [bA]
theorem bA_size (l : List UInt8) : (bA l).size = l.length := by show l.toArray.size = _; simp
theorem data_len (s : ByteArray) : s.data.toList.length = s.size := by show _ = s.data.size; simp
theorem ext_bA (s : ByteArray) (a b : Nat) : s.extract a b = bA ((s.data.toList.take b).drop a) := by
  apply ByteArray.ext
  rw [ByteArray.data_extract]
  unfold bA
  simp only
  rw [← Array.toList_inj]
  rw [Array.toList_extract, List.extract_eq_take_drop]
  simp [List.drop_take]
theorem getB (s : ByteArray) (i : Nat) (h : i < s.size) : s[i] = s.data.toList[i]'(by rw [data_len]; exact h) := by
  show s.data[i] = _
  simp
theorem wbL_wB (b : UInt8) : wbL b = wB (b.toNat : Int) := by
  unfold wbL wB
  rw [Bool.eq_iff_iff]
  simp only [decide_eq_true_eq]
  omega
theorem dgL_digB (b : UInt8) : dgL b = digB (b.toNat : Int) := by
  unfold dgL digB
  rw [Bool.eq_iff_iff]
  simp only [decide_eq_true_eq]
  omega
theorem lead0 : ∀ (l : List UInt8) (h : 0 < l.length), leadD l = dgL (l[0]'h)
  | [], h => by simp at h
  | b :: r, _ => rfl
theorem wordB_L (s : ByteArray) : wordB s = wordL s.data.toList := by
  rw [Bool.eq_iff_iff, wordB_iff]
  unfold WordOk wordL
  simp only [Bool.and_eq_true, decide_eq_true_eq, Bool.not_eq_true', data_len]
  constructor
  · rintro ⟨h1, h2, h3⟩
    refine ⟨h1, ?_, ?_⟩
    · have h0 : 0 < s.size := by omega
      rw [bt_of s 0 h0, getB s 0 h0, ← dgL_digB] at h2
      rw [lead0 _ (by rw [data_len]; exact h0)]
      exact h2
    · rw [List.all_eq_true]
      intro b hb
      obtain ⟨i, hi, rfl⟩ := List.mem_iff_getElem.1 hb
      rw [data_len] at hi
      have := h3 i hi
      rw [bt_of s i hi, getB s i hi, ← wbL_wB] at this
      exact this
  · rintro ⟨h1, h2, h3⟩
    have h0 : 0 < s.size := by omega
    refine ⟨h1, ?_, fun i hi => ?_⟩
    · rw [bt_of s 0 h0, getB s 0 h0, ← dgL_digB]
      rw [lead0 _ (by rw [data_len]; exact h0)] at h2
      exact h2
    · rw [bt_of s i hi, getB s i hi, ← wbL_wB]
      exact List.all_eq_true.1 h3 _ (List.getElem_mem _)
theorem lead_run {s : ByteArray} {n : Nat} (h : IsLead s n) : runOf s n = runL s.data.toList := by
  obtain ⟨h1, h2, h3⟩ := h
  have hn : (s.data.toList.takeWhile wbL).length = n := by
    have ha : (s.data.toList.take n).all wbL = true := by
      rw [List.all_eq_true]
      intro b hb
      obtain ⟨i, hi, rfl⟩ := List.mem_iff_getElem.1 hb
      rw [List.length_take, data_len] at hi
      have := h2 i (by omega)
      rw [bt_of s i (by omega), getB s i (by omega), ← wbL_wB] at this
      rw [List.getElem_take]
      exact this
    have hr : stopL (s.data.toList.drop n) := by
      intro b r e
      have hlt : n < s.size := by
        have := congrArg List.length e
        rw [List.length_drop, data_len] at this
        simp at this
        omega
      have := h3 hlt
      rw [bt_of s n hlt, getB s n hlt, ← wbL_wB] at this
      rw [List.drop_eq_getElem_cons (by rw [data_len]; exact hlt)] at e
      injection e with e1 _
      rw [← e1]
      exact this
    have := take_all ha hr
    rw [List.take_append_drop] at this
    rw [this, List.length_take, data_len]
    omega
  unfold runOf runL
  rw [hn]
  have hd : (digB (bt s 0) = true) = (leadD s.data.toList = true) ∨ n = 0 := by
    by_cases h0 : 0 < s.size
    · left
      rw [bt_of s 0 h0, getB s 0 h0, ← dgL_digB, lead0 _ (by rw [data_len]; exact h0)]
    · right; omega
  rcases hd with hd | hd
  · simp only [hd]
  · simp [hd]
def toL (p : PD) : PL := ⟨p.ty.data.toList, p.id.data.toList, p.cls.map (·.data.toList)⟩
def ofL (p : PL) : PD := ⟨bA p.ty, bA p.id, p.cls.map bA⟩
theorem toL_ofL (p : PL) : toL (ofL p) = p := by
  obtain ⟨ty, ud, cls⟩ := p
  unfold toL ofL
  simp only [bA_list, List.map_map]
  congr 1
  have e : ((fun x : ByteArray => x.data.toList) ∘ bA) = id := funext fun l => bA_list l
  rw [e]
  exact List.map_id _
theorem emp_list (t : ByteArray) : t.toList.isEmpty = true ↔ t.data.toList = [] := by
  rw [ByteArray.toList_eq, List.isEmpty_iff]
theorem partB_L (p : PD) : partB p = true ↔ GoodL (toL p) := by
  obtain ⟨ty, id, cls⟩ := p
  unfold partB typeB idB someB
  simp only [Bool.and_eq_true, Bool.or_eq_true, decide_eq_true_eq, clsB_iff, wordB_L, emp_list, Bool.not_eq_true', beq_iff_eq]
  have ne : ∀ t : ByteArray, t.toList.isEmpty = false ↔ t.data.toList ≠ [] := by
    intro t
    rw [← Bool.not_eq_true, emp_list]
  constructor
  · rintro ⟨h1, h2, h3, h4, h5⟩
    refine ⟨by simpa [toL] using h1, ?_, ?_, h4, ?_⟩
    · intro c hc
      obtain ⟨x, hx, rfl⟩ := List.mem_map.1 hc
      obtain ⟨i, hi, rfl⟩ := List.mem_iff_getElem.1 hx
      have := h2 i hi
      rw [wordB_L] at this
      simpa [strAt, hi] using this
    · rcases h3 with (h | h) | h
      · exact Or.inl h
      · rw [ByteArray.toList_eq] at h; exact Or.inr (Or.inl h)
      · exact Or.inr (Or.inr h)
    · rcases h5 with (h | h) | h
      · exact Or.inl ((ne _).1 h)
      · exact Or.inr (Or.inl ((ne _).1 h))
      · refine Or.inr (Or.inr ?_)
        intro e
        have := congrArg List.length e
        simp [toL] at this
        rw [this] at h
        simp at h
  · rintro ⟨h1, h2, h3, h4, h5⟩
    refine ⟨by simpa [toL] using h1, ?_, ?_, h4, ?_⟩
    · intro i hi
      have := h2 (strAt cls i).data.toList (List.mem_map.2 ⟨strAt cls i, by simp [strAt, hi], rfl⟩)
      rw [wordB_L]
      exact this
    · rcases h3 with h | h | h
      · exact Or.inl (Or.inl h)
      · exact Or.inl (Or.inr (by rw [ByteArray.toList_eq]; exact h))
      · exact Or.inr h
    · rcases h5 with h | h | h
      · exact Or.inl (Or.inl ((ne _).2 h))
      · exact Or.inl (Or.inr ((ne _).2 h))
      · refine Or.inr ?_
        cases cls with
        | nil => exact absurd rfl h
        | cons a b => simp
/-- A part read from a word. -/
def prP (s : ByteArray) : Option PD := (prs s.data.toList).map ofL
def prD (s : ByteArray) : PD := (prP s).getD noPD
/-! ### A text cut at a byte -/
def brk (c : UInt8) (l : List UInt8) : Nat := (l.takeWhile fun b => b != c).length
theorem brk_cons (c b : UInt8) (l : List UInt8) : brk c (b :: l) = if b = c then 0 else brk c l + 1 := by
  unfold brk
  rw [List.takeWhile_cons]
  by_cases h : b = c
  · simp [h]
  · simp [h]
theorem brk_le (c : UInt8) : ∀ l, brk c l ≤ l.length := fun l => (List.takeWhile_sublist _).length_le
theorem brk_at (c : UInt8) : ∀ (l : List UInt8) (h : brk c l < l.length), l[brk c l] = c := by
  intro l
  induction l with
  | nil => intro h; simp at h
  | cons b l ih =>
    intro h
    by_cases hb : b = c
    · subst hb
      have e : brk b (b :: l) = 0 := by rw [brk_cons, if_pos rfl]
      simp [e]
    · have e : brk c (b :: l) = brk c l + 1 := by rw [brk_cons, if_neg hb]
      simp only [e] at h ⊢
      rw [List.getElem_cons_succ]
      exact ih (by simpa using h)
theorem brk_before (c : UInt8) : ∀ (l : List UInt8) (i : Nat) (h : i < l.length), i < brk c l → l[i] ≠ c := by
  intro l
  induction l with
  | nil => intro i h; simp at h
  | cons b l ih =>
    intro i h hi
    rw [brk_cons] at hi
    split at hi
    · omega
    · rename_i hb
      cases i with
      | zero => exact hb
      | succ i => rw [List.getElem_cons_succ]; exact ih i (by simpa using h) (by omega)
theorem firstIdx_brk (s : ByteArray) (c : UInt8) : firstIdx s c = if brk c s.data.toList < s.size then (brk c s.data.toList : Int) else -1 := by
  unfold firstIdx
  by_cases h : brk c s.data.toList < s.size
  · rw [if_pos h]
    have e : (List.range s.size).find? (fun i => s[i]! == c) = some (brk c s.data.toList) := by
      rw [List.find?_range_eq_some]
      refine ⟨?_, by simpa using h, ?_⟩
      · rw [getElem!_pos s _ h, getB s _ h, beq_iff_eq]
        exact brk_at c _ _
      · intro j hj
        have hj2 : j < s.size := by omega
        rw [getElem!_pos s _ hj2, getB s _ hj2]
        simp only [Bool.not_eq_true', beq_eq_false_iff_ne]
        exact brk_before c _ j _ hj
    rw [e]
  · rw [if_neg h]
    have e : (List.range s.size).find? (fun i => s[i]! == c) = none := by
      rw [List.find?_eq_none]
      intro i hi
      have hi' : i < s.size := by simpa using hi
      rw [getElem!_pos s _ hi', getB s _ hi']
      simp only [beq_iff_eq]
      exact brk_before c _ i _ (by omega)
    rw [e]
/-- The pieces of a text that is parted at a byte. -/
def pcs (c : UInt8) : List UInt8 → List (List UInt8)
  | [] => [[]]
  | b :: l => if b = c then [] :: pcs c l else match pcs c l with | [] => [[b]] | x :: r => (b :: x) :: r
theorem pcs_ne (c : UInt8) (l : List UInt8) : pcs c l ≠ [] := by
  cases l with
  | nil => simp [pcs]
  | cons b l =>
    unfold pcs
    split
    · simp
    · split <;> simp
theorem pcs_hit (c : UInt8) : ∀ (l : List UInt8), brk c l < l.length → pcs c l = l.take (brk c l) :: pcs c (l.drop (brk c l + 1)) := by
  intro l
  induction l with
  | nil => intro h; simp at h
  | cons b l ih =>
    intro h
    rw [brk_cons] at h ⊢
    by_cases hb : b = c
    · rw [if_pos hb] at h ⊢
      subst hb
      simp [pcs]
    · rw [if_neg hb] at h ⊢
      have := ih (by simpa using h)
      rw [pcs, if_neg hb, this]
      simp
theorem pcs_miss (c : UInt8) : ∀ (l : List UInt8), ¬ brk c l < l.length → pcs c l = [l] := by
  intro l
  induction l with
  | nil => intro _; rfl
  | cons b l ih =>
    intro h
    rw [brk_cons] at h
    by_cases hb : b = c
    · rw [if_pos hb] at h; simp at h
    · rw [if_neg hb] at h
      have := ih (by simp at h; omega)
      rw [pcs, if_neg hb, this]
theorem pcs_len (c : UInt8) : ∀ (l : List UInt8), (pcs c l).length = l.count c + 1 := by
  intro l
  induction l with
  | nil => rfl
  | cons b l ih =>
    rw [pcs, List.count_cons]
    by_cases hb : b = c
    · rw [if_pos hb]; simp [hb, ih]
    · rw [if_neg hb]
      have hb2 : (b == c) = false := by simpa using hb
      rw [hb2]
      cases hp : pcs c l with
      | nil => exact absurd hp (pcs_ne c l)
      | cons x r => rw [hp] at ih; simp at ih ⊢; omega
theorem dots_pcs : ∀ (l : List UInt8), pcs 46 l = (dots l).1 :: (dots l).2 := by
  intro l
  induction l with
  | nil => rfl
  | cons b l ih =>
    rw [pcs, dots]
    by_cases hb : b = 46
    · rw [if_pos hb, if_pos hb, ih]
    · rw [if_neg hb, if_neg hb, ih]
theorem cutH_brk : ∀ (l : List UInt8), cutH l = if brk 35 l < l.length then (l.take (brk 35 l), l.drop (brk 35 l + 1), true) else (l, [], false) := by
  intro l
  induction l with
  | nil => rfl
  | cons b l ih =>
    rw [cutH, brk_cons]
    by_cases hb : b = 35
    · rw [if_pos hb, if_pos hb]; simp
    · rw [if_neg hb, if_neg hb, ih]
      by_cases h : brk 35 l < l.length
      · rw [if_pos h, if_pos (by simpa using h)]; simp
      · rw [if_neg h, if_neg (by simpa using h)]
end Go.Proofs.YtnkmdmmlpidcmaaGreatDoor
namespace Go.Proofs.YtnkmdmmlpidcmaaGreatDoor
open Go.ChangeShapes Go.WideShapes Go.ChangeAt Go.RowKit
set_option linter.unusedVariables false

theorem txs_parts : ∃ i, Tryz.prog.info? 9 = some i ∧ i.zero = some (.string ⟨#[]⟩) ∧ i.size = 1 ∧ i.bytes = 16 := by
  have h : (Tryz.prog.info? 9).map (fun i => (i.zero, i.size, i.bytes)) = some (some (.string ⟨#[]⟩), 1, 16) := by kernel_rfl
  obtain ⟨i, hi, hzz⟩ := Option.map_eq_some_iff.1 h
  simp only [Prod.mk.injEq] at hzz
  exact ⟨i, hi, hzz⟩
/-- The texts l in a list of the call's own, nil or in a block from B on. -/
def Txs (w : World) (B : Nat) (v : Value) (l : List ByteArray) : Prop := w.ownsRow B 9 1 v l.length (l.map Value.string)
theorem Txs.nil (w : World) (B : Nat) : Txs w B (.slice none 0 0) [] := World.ownsRow_nil w B _ 1
theorem Txs.nw {w w' : World} {B : Nat} {v : Value} {l : List ByteArray} (h : Txs w B v l) (k : Nw w w') : Txs w' B v l :=
  World.ownsRow.kept h (row := none) ⟨Below.os k, Below.tape k, Below.output k, Below.size k, fun b hb _ => Below.block k b hb⟩ (by cases hv : v.ownBlock <;> simp)
theorem Txs.below {w w' : World} {B : Nat} {v v' : Value} {l : List ByteArray} (h : Txs w B v l) (k : Ext v v' w w') (hB : B ≤ w.heap.size) : Below B w w' :=
  k.below (fun g e => (World.ownsRow.lt h g e).1) hB
/-- Where they lie. -/
theorem Txs.lay {w : World} {B : Nat} {v : Value} {l : List ByteArray} (h : Txs w B v l) : (v = .slice none 0 0 ∧ l = []) ∨ ∃ g c, v = .slice (some ⟨g, 0, none⟩) l.length c ∧ B ≤ g ∧ LayS w g l l.length := by
  rcases h.2 with ⟨hn, h0⟩ | ⟨g, cap, cur, h1, h2, h3⟩
  · exact Or.inl ⟨hn, List.eq_nil_of_length_eq_zero h0⟩
  · refine Or.inr ⟨g, cap, h1, h2, ?_⟩
    subst h1
    refine ⟨(World.ownsRow.lt h g rfl).2, fun i hi => ?_, fun i a b => absurd b (by omega), fun o => World.ownsRow.frozenAt h o⟩
    have := World.ownsRow.cellAt h i (by omega)
    rw [this]
    simp [strAt, hi]
theorem Txs.strs {w : World} {B : Nat} {v : Value} {l : List ByteArray} (h : Txs w B v l) : ∃ a c, v = .slice a l.length c ∧ Strs w a l := by
  rcases h.lay with ⟨rfl, rfl⟩ | ⟨g, c, rfl, _, hl⟩
  · exact ⟨none, 0, rfl, Or.inl rfl⟩
  · exact ⟨_, c, rfl, hl.strs⟩
/-- A text is appended. -/
theorem wp_tx (w : World) {ops : Array Oper} {rest : List Oper} {o : Oper} {a : Act} {Q : Exit → Act → World → Prop} (hgd : o.guard = none) (s x : Operand)
    (ho : o.op = .call { callee := .builtin .append, args := #[s, x], argTypes := #[65, 65] })
    (B : Nat) (v : Value) (l : List ByteArray) (t : ByteArray) (hs : a.eval s = v) (hown : Txs w B v l) (g : Nat) (hx : a.eval x = .slice (some ⟨g, 0, none⟩) 1 1) (hc : w.cell? ⟨g, 0, none⟩ = some (.string t))
    (h63 : l.length ≤ 10000000) (hB : B ≤ w.heap.size)
    (h : ∀ v' w', Txs w' B v' (l ++ [t]) → Ext v v' w w' → wpList Tryz.prog ops Q rest (a.put o.dst v') w') : wpList Tryz.prog ops Q (o :: rest) a w := by
  obtain ⟨i0, hi, hz0, hz1, hz2⟩ := txs_parts
  refine wpList_append_own_at w hgd s x 65 ho B 9 i0 (.string ⟨#[]⟩) 1 16 Tryz.underlying65 hi hz0 hz1 hz2 rfl (by decide) v l.length (l.map Value.string) hs hown ⟨g, 0, none⟩ 1 1 [.string t] hx rfl (fun j u hj => ?_) (fun u hu => ?_) (by unfold maxLen; omega) (by omega) hB ?_
  · cases j with
    | zero => simp at hj; subst hj; simpa [Addr.add] using hc
    | succ j => simp at hj
  · simp at hu; subst hu; rfl
  · intro v' w' h1 h2 _ h4
    refine h v' w' ?_ ⟨h2, h4.imp id fun e => ⟨_, e, Nat.le_refl _⟩⟩
    unfold Txs
    rw [List.length_append, List.map_append]
    exact h1
end Go.Proofs.YtnkmdmmlpidcmaaGreatDoor
