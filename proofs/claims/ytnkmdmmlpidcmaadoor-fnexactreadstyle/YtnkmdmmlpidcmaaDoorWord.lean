/-
  Words of sheets: the looks at a byte and at a text, the program's and the specification's; each theorem names its conditions.
-/
import Derived.Test.YtnkmdmmlpidcmaaDoorLet
import Derived.Test.YtnkmdmmlpidcmaaDoorLow
import Derived.Laws.RangeAny
namespace Go.Proofs.YtnkmdmmlpidcmaaDoor
open Go.ChangeShapes Go.WideShapes Go.ChangeAt Go.RowKit
set_option linter.unusedVariables false

def startB (c : Int) : Bool := decide ((97 ≤ c ∧ c ≤ 122) ∨ (65 ≤ c ∧ c ≤ 90) ∨ c = 95 ∨ c = 45)
def wB (c : Int) : Bool := decide ((97 ≤ c ∧ c ≤ 122) ∨ (65 ≤ c ∧ c ≤ 90) ∨ c = 95 ∨ c = 45 ∨ (48 ≤ c ∧ c ≤ 57))
theorem sstart (w : World) (c : Int) (h0 : 0 ≤ c) (h1 : c ≤ 255) : Calls Tryd.prog 146 #[.int .u8 c] w fun e w' => e = .returned (.bool (startB c)) ∧ w' = w := by
  by_cases hf : firstB c = true
  · go_enter Tryd.func146, Tryd.ntmps146
    go_wp2_with (go_at_call 164; refine (sletter _ c h0 h1).mono ?_; rw [hf]; rintro e w' ⟨rfl, rfl⟩)
    go_ret
    exact ⟨ret_bool (by simp [firstB] at hf; rw [Bool.eq_iff_iff]; simp [startB]; omega), rfl⟩
  · have hf' : firstB c = false := by simpa using hf
    clear hf
    go_enter Tryd.func146, Tryd.ntmps146
    go_wp2_with (go_at_call 164; refine (sletter _ c h0 h1).mono ?_; rw [hf']; rintro e w' ⟨rfl, rfl⟩)
    all_goals
      go_ret
      exact ⟨ret_bool (by simp [firstB] at hf'; rw [Bool.eq_iff_iff]; simp [startB]; omega), rfl⟩
theorem swin (w : World) (c : Int) (h0 : 0 ≤ c) (h1 : c ≤ 255) : Calls Tryd.prog 118 #[.int .u8 c] w fun e w' => e = .returned (.bool (wB c)) ∧ w' = w := by
  by_cases hf : startB c = true
  · go_enter Tryd.func118, Tryd.ntmps118
    go_wp2_with (go_at_call 146; refine (sstart _ c h0 h1).mono ?_; rw [hf]; rintro e w' ⟨rfl, rfl⟩)
    go_ret
    exact ⟨ret_bool (by simp [startB] at hf; rw [Bool.eq_iff_iff]; simp [wB]; omega), rfl⟩
  · have hf' : startB c = false := by simpa using hf
    clear hf
    go_enter Tryd.func118, Tryd.ntmps118
    go_wp2_with (first | (go_at_call 146; refine (sstart _ c h0 h1).mono ?_; rw [hf']; rintro e w' ⟨rfl, rfl⟩) | (go_at_call 83; refine (sdigit _ c h0 h1).mono ?_; rintro e w' ⟨rfl, rfl⟩))
    all_goals
      go_ret
      exact ⟨ret_bool (by simp [startB] at hf'; rw [Bool.eq_iff_iff]; simp [wB, digB]; omega), rfl⟩
/-- A rune that may stand in a word. -/
theorem iwin (w : World) (c : Int) (h0 : 0 ≤ c) (h1 : c ≤ 2147483647) : Calls Tryd.prog 123 #[.int .i32 c] w fun e w' => e = .returned (.bool (wB c)) ∧ w' = w := by
  by_cases c1 : c < 128
  · have hm : c % 256 = c := by omega
    have hw : IntKind.wrap .u8 c = c := by simp [IntKind.wrap, IntKind.signed, IntKind.bits]; omega
    by_cases hf : letB c = true
    · go_enter Tryd.func123, Tryd.ntmps123
      go_wp2_with (first | (go_at_call 149; (try rw [hw]); refine (iletter _ c h0 (by omega)).mono ?_; rw [hf]; rintro e w' ⟨rfl, rfl⟩) | (go_at_call 122; (try rw [hw]); refine (idigit _ c h0 (by omega)).mono ?_; rintro e w' ⟨rfl, rfl⟩))
      all_goals
        go_ret
        exact ⟨ret_bool (by simp [letB] at hf; rw [Bool.eq_iff_iff]; simp [wB]; omega), rfl⟩
    · have hf' : letB c = false := by simpa using hf
      clear hf
      go_enter Tryd.func123, Tryd.ntmps123
      go_wp2_with (first | (go_at_call 149; (try rw [hw]); refine (iletter _ c h0 (by omega)).mono ?_; rw [hf']; rintro e w' ⟨rfl, rfl⟩) | (go_at_call 122; (try rw [hw]); refine (idigit _ c h0 (by omega)).mono ?_; rintro e w' ⟨rfl, rfl⟩))
      all_goals
        go_ret
        exact ⟨ret_bool (by simp [letB] at hf'; rw [Bool.eq_iff_iff]; simp [wB, digB]; omega), rfl⟩
  · go_enter Tryd.func123, Tryd.ntmps123
    go_wp2
    all_goals
      go_ret
      exact ⟨ret_bool (by rw [Bool.eq_iff_iff]; simp [wB]; omega), rfl⟩

def WordOk (s : ByteArray) : Prop := (1 ≤ s.size ∧ s.size ≤ 30) ∧ digB (bt s 0) = false ∧ ∀ i, i < s.size → wB (bt s i) = true
def wordB (s : ByteArray) : Bool := decide (1 ≤ s.size ∧ s.size ≤ 30) && (!digB (bt s 0) && (List.range s.size).all fun i => wB (bt s i))
theorem wordB_iff (s : ByteArray) : wordB s = true ↔ WordOk s := by
  unfold wordB WordOk
  rw [Bool.and_eq_true, Bool.and_eq_true, decide_eq_true_eq, List.all_eq_true]
  simp only [List.mem_range, Bool.not_eq_true']
theorem wordB_yes {s : ByteArray} (h : WordOk s) : wordB s = true := (wordB_iff s).2 h
theorem wordB_no {s : ByteArray} (h : ¬ WordOk s) : wordB s = false := by
  cases e : wordB s with
  | false => rfl
  | true => exact absurd ((wordB_iff s).1 e) h

/-- So many bytes at the front may stand in a word. -/
def IsLead (s : ByteArray) (n : Nat) : Prop := n ≤ s.size ∧ (∀ i, i < n → wB (bt s i) = true) ∧ (n < s.size → wB (bt s n) = false)
def runOf (s : ByteArray) (n : Nat) : Nat := if n = 0 ∨ digB (bt s 0) = true ∨ 30 < n then 0 else n
theorem runOf_yes {s : ByteArray} {n : Nat} (h0 : ¬ n = 0) (hd : digB (bt s 0) = false) (h : n ≤ 30) : runOf s n = n := by
  unfold runOf; rw [if_neg (by rw [hd]; simp; omega)]
theorem runOf_long {s : ByteArray} {n : Nat} (h : 30 < n) : runOf s n = 0 := by
  unfold runOf; rw [if_pos (Or.inr (Or.inr h))]
def RunSays (s : ByteArray) (e : Ending) : Prop := ∃ n, IsLead s n ∧ e = .returned (.int .i64 (runOf s n))
theorem RunSays.mk {s : ByteArray} {n : Nat} {x : Int} (h : IsLead s n) (e : x = (runOf s n : Nat)) : RunSays s (.returned (.int .i64 x)) := ⟨n, h, by rw [e]⟩
set_option maxHeartbeats 2000000 in
theorem srun (w : World) (s : ByteArray) (hs : s.size ≤ 1048576) : Calls Tryd.prog 91 #[.string s] w fun e w' => RunSays s e ∧ w' = w := by
  go_enter Tryd.func91, Tryd.ntmps91
  go_wp2
  go_loop [3] (fun i => ∃ k : Nat, k ≤ s.size ∧ i = .int .i64 k ∧ ∀ j, j < k → wB (bt s j) = true) (fun i => s.size - (intOf i).toNat)
  case atStart => exact ⟨0, Nat.zero_le _, rfl, fun j hj => absurd hj (by omega)⟩
  case round =>
    obtain ⟨k, hk, rfl, hin⟩ := hrel
    have HI : Hid (∀ j, j < k → wB (bt s j) = true) := hin
    clear hin
    have done : (k < s.size → wB (bt s k) = false) → IsLead s k := fun h => ⟨hk, HI.out, h⟩
    by_cases hlt : k < s.size
    · have hbk := bt_of s k hlt
      have hbdk := bt_bd s k
      rw [hbk] at hbdk
      by_cases hi : wB (bt s k) = true
      · have hi' : wB (s[k].toNat : Int) = true := by rw [← hbk]; exact hi
        have HJ : Hid (wB (bt s k) = true) := hi
        clear hbk hi done
        go_wp2_with (go_at_call 118; refine (swin _ _ hbdk.1 hbdk.2).mono ?_; rw [hi']; rintro e w' ⟨rfl, rfl⟩)
        go_round
        case rel =>
          refine ⟨k + 1, by omega, by go_num, fun j hj => ?_⟩
          by_cases e : j = k
          · rw [e]; exact HJ.out
          · exact HI.out j (by omega)
        case measure => simp [intOf]; omega
      · have hi' : wB (s[k].toNat : Int) = false := by rw [← hbk]; simpa using hi
        have HD : Hid (IsLead s k) := done fun _ => by simpa using hi
        clear hbk hi done
        have h0 : 0 < s.size := by omega
        have hb0 := bt_of s 0 h0
        have hbd0 := bt_bd s 0
        rw [hb0] at hbd0
        have HB : Hid (bt s 0 = (s[0].toNat : Int)) := hb0
        clear hb0
        by_cases k0 : k = 0
        · subst k0
          go_wp2_with (go_at_call 118; refine (swin _ _ hbdk.1 hbdk.2).mono ?_; rw [hi']; rintro e w' ⟨rfl, rfl⟩)
          go_ret
          exact ⟨RunSays.mk HD.out (by simp [runOf]), rfl⟩
        · by_cases hd : digB (s[0].toNat : Int) = true
          · go_wp2_with (first | (go_at_call 118; refine (swin _ _ hbdk.1 hbdk.2).mono ?_; rw [hi']; rintro e w' ⟨rfl, rfl⟩) | (go_at_call 83; refine (sdigit _ _ hbd0.1 hbd0.2).mono ?_; rw [hd]; rintro e w' ⟨rfl, rfl⟩))
            go_ret
            exact ⟨RunSays.mk HD.out (by simp [runOf, HB.out, hd]), rfl⟩
          · have hd' : digB (s[0].toNat : Int) = false := by simpa using hd
            have hkb : ((k : Int) == 0) = false := by simp; omega
            go_wp2_with (first | (go_at_call 118; refine (swin _ _ hbdk.1 hbdk.2).mono ?_; rw [hi']; rintro e w' ⟨rfl, rfl⟩) | (go_at_call 83; refine (sdigit _ _ hbd0.1 hbd0.2).mono ?_; rw [hd']; rintro e w' ⟨rfl, rfl⟩))
            all_goals
              go_ret
              exact ⟨RunSays.mk HD.out (by first | (rw [runOf_yes k0 (by rw [HB.out]; exact hd') (by omega)]; done) | (rw [runOf_long (by omega)]; rfl)), rfl⟩
    · have HD : Hid (IsLead s k) := done fun h => absurd h hlt
      clear done
      by_cases k0 : k = 0
      · subst k0
        obtain rfl := empty_of (s := s) (by omega)
        go_wp2
        go_ret
        exact ⟨RunSays.mk HD.out (by simp [runOf]), rfl⟩
      · have h0 : 0 < s.size := by omega
        have hb0 := bt_of s 0 h0
        have hbd0 := bt_bd s 0
        rw [hb0] at hbd0
        have HB : Hid (bt s 0 = (s[0].toNat : Int)) := hb0
        clear hb0
        by_cases hd : digB (s[0].toNat : Int) = true
        · go_wp2_with (go_at_call 83; refine (sdigit _ _ hbd0.1 hbd0.2).mono ?_; rw [hd]; rintro e w' ⟨rfl, rfl⟩)
          go_ret
          exact ⟨RunSays.mk HD.out (by simp [runOf, HB.out, hd]), rfl⟩
        · have hd' : digB (s[0].toNat : Int) = false := by simpa using hd
          have hkb : ((k : Int) == 0) = false := by simp; omega
          go_wp2_with (go_at_call 83; refine (sdigit _ _ hbd0.1 hbd0.2).mono ?_; rw [hd']; rintro e w' ⟨rfl, rfl⟩)
          all_goals
            go_ret
            exact ⟨RunSays.mk HD.out (by first | (rw [runOf_yes k0 (by rw [HB.out]; exact hd') (by omega)]; done) | (rw [runOf_long (by omega)]; rfl)), rfl⟩
theorem run_word {s : ByteArray} {n : Nat} (h : IsLead s n) (hs : 0 < s.size) : (decide (runOf s n = s.size)) = wordB s := by
  obtain ⟨h1, h2, h3⟩ := h
  rw [Bool.eq_iff_iff, decide_eq_true_eq, wordB_iff]
  unfold runOf WordOk
  constructor
  · intro e
    split at e
    · omega
    · rename_i hn
      subst e
      refine ⟨by omega, ?_, h2⟩
      cases hd : digB (bt s 0) with
      | false => rfl
      | true => exact absurd (Or.inr (Or.inl hd)) hn
  · intro ⟨e1, e2, e3⟩
    have hn : n = s.size := by
      rcases Nat.lt_or_ge n s.size with c | c
      · have := e3 n c; rw [h3 c] at this; cases this
      · omega
    rw [if_neg (by rw [e2]; simp; omega)]
    exact hn
theorem sword (w : World) (s : ByteArray) (hs : s.size ≤ 1048576) : Calls Tryd.prog 71 #[.string s] w fun e w' => e = .returned (.bool (wordB s)) ∧ w' = w := by
  by_cases h0 : 0 < s.size
  · go_enter Tryd.func71, Tryd.ntmps71
    go_wp2_with (go_at_call 91; refine (srun _ s hs).mono ?_; rintro e w' ⟨⟨n, hl, rfl⟩, rfl⟩; have hq := run_word hl h0)
    go_ret
    refine ⟨ret_bool ?_, rfl⟩
    rw [← hq, Bool.eq_iff_iff]
    simp
    omega
  · have HX : Hid (wordB s = false) := wordB_no fun h => h0 (by have := h.1; omega)
    go_enter Tryd.func71, Tryd.ntmps71
    go_wp2
    go_ret
    exact ⟨ret_bool HX.out.symm, rfl⟩

set_option maxHeartbeats 2000000 in
theorem iword (w : World) (s : ByteArray) (hs : s.size ≤ 1048576) : Calls Tryd.prog 94 #[.string s] w fun e w' => e = .returned (.bool (wordB s)) ∧ Nw w w' := by
  by_cases h0 : 0 < s.size
  · have hn1 := ne_nil (s := s) h0
    have hn2 := ne_emp (s := s) h0
    by_cases h30 : s.size ≤ 30
    · have hb0 := bt_of s 0 h0
      have hbd0 := bt_bd s 0
      rw [hb0] at hbd0
      by_cases hd : digB (s[0].toNat : Int) = true
      · have HX : Hid (wordB s = false) := wordB_no fun h => by have := h.2.1; rw [hb0, hd] at this; cases this
        clear hb0
        go_enter Tryd.func94, Tryd.ntmps94
        go_wp2_with (go_at_call 122; refine (idigit _ _ hbd0.1 hbd0.2).mono ?_; rw [hd]; rintro e w' ⟨rfl, hq⟩; have hq2 := hq.symm; clear hq; subst hq2)
        go_ret
        exact ⟨ret_bool HX.out.symm, Below.refl _ _⟩
      · have hd' : digB (s[0].toNat : Int) = false := by simpa using hd
        have HD : Hid (digB (bt s 0) = false) := by rw [hb0]; exact hd'
        clear hb0 hd
        go_enter Tryd.func94, Tryd.ntmps94
        go_wp2_with (go_at_call 122; refine (idigit _ _ hbd0.1 hbd0.2).mono ?_; rw [hd']; rintro e w' ⟨rfl, hq⟩; have hq2 := hq.symm; clear hq; subst hq2)
        go_loopw [] (fun wr => ∃ pos : Nat, pos ≤ s.size ∧ (∀ j, j < pos → wB (bt s j) = true) ∧ wr = w.iter s pos) (fun wr => s.size - wr.iterPos w.heap.size)
        case atStart => exact ⟨0, Nat.zero_le _, fun j hj => absurd hj (by omega), rfl⟩
        case round =>
          obtain ⟨pos, hp, hin, rfl⟩ := hrel
          have HI : Hid (∀ j, j < pos → wB (bt s j) = true) := hin
          clear hin
          by_cases hlt : pos < s.size
          · have hbk := bt_of s pos hlt
            by_cases ha : (s[pos]'hlt).toNat < 128
            · have hnx : ∀ ty, (Instr.next (.pointer (some ⟨w.heap.size, 0, none⟩)) true ty).run Tryd.prog (w.iter s pos) = .ok (.tuple #[.bool true, .int .i64 pos, .int .i32 ((s[pos]'hlt).toNat : Int)]) (w.iter s (pos + 1)) := fun ty => by
                have := run_next_any (P := Tryd.prog) w s pos ty hlt
                rw [decode_ascii s pos hlt ha] at this
                exact this
              by_cases hi : wB ((s[pos]'hlt).toNat : Int) = true
              · have HJ : Hid (wB (bt s pos) = true) := by rw [hbk]; exact hi
                clear hbk
                generalize (s[pos]'hlt).toNat = x at *
                go_wp2_with (go_at_call 123; refine (iwin _ _ (by omega) (by omega)).mono ?_; rw [hi]; rintro e w' ⟨rfl, hq⟩; have hq2 := hq.symm; clear hq; subst hq2)
                go_roundw
                case rel =>
                  refine ⟨pos + 1, by omega, fun j hj => ?_, rfl⟩
                  by_cases e : j = pos
                  · rw [e]; exact HJ.out
                  · exact HI.out j (by omega)
                case measure => simp; omega
              · have hi' : wB ((s[pos]'hlt).toNat : Int) = false := by simpa using hi
                have HX : Hid (wordB s = false) := wordB_no fun h => by have := h.2.2 pos hlt; rw [hbk, hi'] at this; cases this
                clear hbk hi
                generalize (s[pos]'hlt).toNat = x at *
                go_wp2_with (go_at_call 123; refine (iwin _ _ (by omega) (by omega)).mono ?_; rw [hi']; rintro e w' ⟨rfl, hq⟩; have hq2 := hq.symm; clear hq; subst hq2)
                go_ret
                exact ⟨ret_bool HX.out.symm, (Below.refl _ _).alloc (Nat.le_refl _) _⟩
            · obtain ⟨hh, _⟩ := decode_high s pos hlt (by omega)
              have hle := decode_le s pos
              have hnx := fun ty => run_next_any (P := Tryd.prog) w s pos ty hlt
              have hi' : wB (bt s pos) = false := by rw [hbk]; simp [wB]; omega
              have HX : Hid (wordB s = false) := wordB_no fun h => by have := h.2.2 pos hlt; rw [hi'] at this; cases this
              have hi2 : wB ((Utf8.decode s pos).1 : Int) = false := by simp [wB]; omega
              clear hbk hi'
              generalize (Utf8.decode s pos).1 = x at *
              generalize pos + (Utf8.decode s pos).2 = y at *
              go_wp2_with (go_at_call 123; refine (iwin _ _ (by omega) (by omega)).mono ?_; rw [hi2]; rintro e w' ⟨rfl, hq⟩; have hq2 := hq.symm; clear hq; subst hq2)
              go_ret
              exact ⟨ret_bool HX.out.symm, (Below.refl _ _).alloc (Nat.le_refl _) _⟩
          · have hnx := fun ty => run_next_end (P := Tryd.prog) w s pos ty hlt
            have e : pos = s.size := by omega
            have HX : Hid (wordB s = true) := wordB_yes ⟨by omega, HD.out, fun i hi => HI.out i (by omega)⟩
            clear e
            go_wp2
            go_ret
            exact ⟨ret_bool HX.out.symm, (Below.refl _ _).alloc (Nat.le_refl _) _⟩
    · have HX : Hid (wordB s = false) := wordB_no fun h => h30 h.1.2
      go_enter Tryd.func94, Tryd.ntmps94
      go_wp2
      go_ret
      exact ⟨ret_bool HX.out.symm, Below.refl _ _⟩
  · have HX : Hid (wordB s = false) := wordB_no fun h => h0 (by have := h.1; omega)
    obtain rfl := empty_of (s := s) (by omega)
    go_enter Tryd.func94, Tryd.ntmps94
    go_wp2
    go_ret
    exact ⟨ret_bool HX.out.symm, Below.refl _ _⟩
end Go.Proofs.YtnkmdmmlpidcmaaDoor
