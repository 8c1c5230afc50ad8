/-
  A rune held against the four blanks; each theorem names its conditions.
-/
import Derived.Test.YtnkmdmmlpidcmaaDoorLet
import Derived.Test.YtnkmdmmlpidcmaaDoorLow
import Derived.Test.YtnkmdmmlpidcmaaDoorFlds
import Derived.Test.YtnkmdmmlpidcmaaDoorShelf
import Derived.Laws.RangeAny
import Derived.Laws.Runes
import Derived.WalkMore
namespace Go.Proofs.YtnkmdmmlpidcmaaDoor
open Go.ChangeShapes Go.WideShapes Go.ChangeAt Go.RowKit
set_option linter.unusedVariables false

def blanksT : ByteArray := ⟨#[9, 10, 13, 32]⟩
theorem indexByte_high (t : ByteArray) (y : Nat) (ht : ∀ b ∈ t.data.toList, b.toNat < 128) (h1 : 128 ≤ y) (h2 : y ≤ 255) (W : World) :
    Calls Tryd.prog 129 #[.string t, .int .u8 (y : Int)] W fun e w' => e = .returned (.int .i64 (-1)) ∧ w' = W := by
  refine (Tryd.strings_IndexByte t y W).mono ?_
  rintro e w' ⟨rfl, rfl⟩
  refine ⟨?_, rfl⟩
  have hne : ∀ b ∈ t.data.toList, b ≠ (y : Int).toNat.toUInt8 := fun b hb e => by
    have h := ht b hb
    rw [e] at h
    simp at h
    omega
  rw [← Lib.firstIdx_eq, firstIdx_none _ _ hne]
theorem blanks_low (b : UInt8) (h : b ∈ (⟨#[9, 10, 13, 32]⟩ : ByteArray).data.toList) : b.toNat < 128 := by
  simp at h
  rcases h with rfl | rfl | rfl | rfl <;> decide
theorem bt_blanks (i : Nat) (h : i < (⟨#[9, 10, 13, 32]⟩ : ByteArray).size) : ((⟨#[9, 10, 13, 32]⟩ : ByteArray)[i]'h).toNat < 128 :=
  blanks_low _ (Array.getElem_mem_toList (xs := (⟨#[9, 10, 13, 32]⟩ : ByteArray).data) h)
set_option maxHeartbeats 4000000 in
set_option maxRecDepth 100000 in
theorem indexRune_error (w : World) :
    Calls Tryd.prog 99 #[.string ⟨#[9, 10, 13, 32]⟩, .int .i32 65533] w fun e w' => e = .returned (.int .i64 (-1)) ∧ Nw w w' := by
  have hsz : (⟨#[9, 10, 13, 32]⟩ : ByteArray).size = 4 := rfl
  have HL : Hid (∀ i (h : i < (⟨#[9, 10, 13, 32]⟩ : ByteArray).size), ((⟨#[9, 10, 13, 32]⟩ : ByteArray)[i]'h).toNat < 128) := bt_blanks
  generalize hS : (⟨#[9, 10, 13, 32]⟩ : ByteArray) = S at *
  clear hS
  go_enter Tryd.func99, Tryd.ntmps99
  go_wp2
  go_loopw [] (fun wr => ∃ pos : Nat, pos ≤ S.size ∧ wr = w.iter S pos) (fun wr => S.size - wr.iterPos w.heap.size)
  case atStart => exact ⟨0, Nat.zero_le _, rfl⟩
  case round =>
    obtain ⟨pos, hp, rfl⟩ := hrel
    by_cases hlt : pos < S.size
    · have ha := HL.out pos hlt
      have hnx : ∀ ty, (Instr.next (.pointer (some ⟨w.heap.size, 0, none⟩)) true ty).run Tryd.prog (w.iter S pos) = .ok (.tuple #[.bool true, .int .i64 pos, .int .i32 ((S[pos]'hlt).toNat : Int)]) (w.iter S (pos + 1)) := fun ty => by
        have := run_next_any (P := Tryd.prog) w S pos ty hlt
        rw [decode_ascii S pos hlt ha] at this
        exact this
      have hne : (((S[pos]'hlt).toNat : Int) == 65533) = false := beq_eq_false_iff_ne.2 (by omega)
      generalize (S[pos]'hlt).toNat = x at *
      clear hsz
      go_wp2
      go_roundw
      case rel => exact ⟨pos + 1, by omega, rfl⟩
      case measure => simp; omega
    · have hnx := fun ty => run_next_end (P := Tryd.prog) w S pos ty hlt
      clear hsz
      go_wp2
      go_ret
      exact ⟨rfl, (Below.refl _ _).alloc (Nat.le_refl _) _⟩
set_option maxHeartbeats 4000000 in
set_option maxRecDepth 100000 in
theorem indexRune_bad (w : World) (r : Int) (h1 : 128 ≤ r) (h2 : r ≤ 1114111) (he : ¬ r = 65533) (hv : Lib.validRune r = false) :
    Calls Tryd.prog 99 #[.string ⟨#[9, 10, 13, 32]⟩, .int .i32 r] w fun e w' => e = .returned (.int .i64 (-1)) ∧ Nw w w' := by
  have hne : (r == 65533) = false := beq_eq_false_iff_ne.2 he
  go_enter Tryd.func99, Tryd.ntmps99
  go_wp2_with (go_at_call 130; refine (Tryd.utf8_ValidRune r _).mono ?_; rw [hv]; rintro e w' ⟨rfl, hq⟩; have hq2 := hq.symm; clear hq; subst hq2)
  go_ret
  exact ⟨rfl, Below.refl _ _⟩
set_option maxHeartbeats 4000000 in
set_option maxRecDepth 100000 in
theorem indexRune_far (w : World) (r : Int) (h1 : 128 ≤ r) (h2 : r ≤ 1114111) (he : ¬ r = 65533) (hv : Lib.validRune r = true) :
    Calls Tryd.prog 99 #[.string ⟨#[9, 10, 13, 32]⟩, .int .i32 r] w fun e w' => e = .returned (.int .i64 (-1)) ∧ Nw w w' := by
  have hne : (r == 65533) = false := beq_eq_false_iff_ne.2 he
  have hval : Utf8.valid r = true := by rw [validRune_eq]; exact hv
  obtain ⟨e1, e2, e3⟩ := encode_facts r hval h1
  have hl : (Utf8.encode r).size - 1 < (Utf8.encode r).size := by omega
  have e4 := e3 hl
  generalize hc : Utf8.encode r = c at *
  clear e3 hval
  have hcc : c.size = 2 ∨ c.size = 3 ∨ c.size = 4 := by omega
  have e5 : ∀ j (h : j < c.size), j = c.size - 1 → 128 ≤ (c[j]'h).toNat := fun j h e => by subst e; exact e4
  clear e4 hl
  rcases hcc with hz | hz | hz
  · have hl : 1 < c.size := by omega
    have hwr : IntKind.i64.wrap 2 = 2 := by decide
    have y4 := e5 1 hl (by omega)
    have y5 := UInt8.toNat_lt (c[1]'hl)
    have HB : ∀ W t, (∀ b ∈ t.data.toList, b.toNat < 128) → Hid (Calls Tryd.prog 129 #[.string t, .int .u8 (((c[1]'hl).toNat : Nat) : Int)] W fun e w' => e = .returned (.int .i64 (-1)) ∧ w' = W) := fun W t ht => indexByte_high t _ ht y4 (by omega) W
    have y6 := bt_blanks 1 (by decide)
    have hq : (((((⟨#[9, 10, 13, 32]⟩ : ByteArray)[1]'(by decide)).toNat : Nat) : Int) == (((c[1]'hl).toNat : Nat) : Int)) = false := beq_eq_false_iff_ne.2 (by omega)
    clear e5
    go_enter Tryd.func99, Tryd.ntmps99
    go_wp2_with (go_at_call 130; refine (Tryd.utf8_ValidRune r _).mono ?_; rw [hv]; rintro e w' ⟨rfl, hq⟩; have hq2 := hq.symm; clear hq; subst hq2)
    go_step3
    go_wp2
    go_loopw [9, 10] (fun i f wr => i = .int .i64 1 ∧ f = .int .i64 0 ∧ wr = w) (fun _ _ _ => 0)
    case atStart => exact ⟨by first | rfl | (rw [hz]; rfl), rfl, rfl⟩
    case round =>
      obtain ⟨rfl, rfl, rfl⟩ := hrel
      go_wp2
      go_step3
      go_wp2
      go_quiet (fail)
      go_wp2
      go_quiet ((go_at_call 129; refine Calls.mono (HB _ _ (fun b hb => blanks_low b (mem_extract hb))).out ?_; rintro e w9 ⟨rfl, rfl⟩; exact ⟨rfl, _, rfl⟩))
      go_wp2
      rw [Exit.noGoto_ret]
      go_wp2
      rw [Exit.noGoto_ret]
      go_ret
      exact ⟨rfl, by first | exact (((Kp.refl _).drewN _).drewN _).nw | exact ((Kp.refl _).drewN _).nw⟩
  · have hl : 2 < c.size := by omega
    have hwr : IntKind.i64.wrap 3 = 3 := by decide
    have y4 := e5 2 hl (by omega)
    have y5 := UInt8.toNat_lt (c[2]'hl)
    have HB : ∀ W t, (∀ b ∈ t.data.toList, b.toNat < 128) → Hid (Calls Tryd.prog 129 #[.string t, .int .u8 (((c[2]'hl).toNat : Nat) : Int)] W fun e w' => e = .returned (.int .i64 (-1)) ∧ w' = W) := fun W t ht => indexByte_high t _ ht y4 (by omega) W
    have y6 := bt_blanks 2 (by decide)
    have hq : (((((⟨#[9, 10, 13, 32]⟩ : ByteArray)[2]'(by decide)).toNat : Nat) : Int) == (((c[2]'hl).toNat : Nat) : Int)) = false := beq_eq_false_iff_ne.2 (by omega)
    clear e5
    go_enter Tryd.func99, Tryd.ntmps99
    go_wp2_with (go_at_call 130; refine (Tryd.utf8_ValidRune r _).mono ?_; rw [hv]; rintro e w' ⟨rfl, hq⟩; have hq2 := hq.symm; clear hq; subst hq2)
    go_step3
    go_wp2
    go_loopw [9, 10] (fun i f wr => i = .int .i64 2 ∧ f = .int .i64 0 ∧ wr = w) (fun _ _ _ => 0)
    case atStart => exact ⟨by first | rfl | (rw [hz]; rfl), rfl, rfl⟩
    case round =>
      obtain ⟨rfl, rfl, rfl⟩ := hrel
      go_wp2
      go_step3
      go_wp2
      go_quiet (fail)
      go_wp2
      go_quiet ((go_at_call 129; refine Calls.mono (HB _ _ (fun b hb => blanks_low b (mem_extract hb))).out ?_; rintro e w9 ⟨rfl, rfl⟩; exact ⟨rfl, _, rfl⟩))
      go_wp2
      rw [Exit.noGoto_ret]
      go_wp2
      rw [Exit.noGoto_ret]
      go_ret
      exact ⟨rfl, by first | exact (((Kp.refl _).drewN _).drewN _).nw | exact ((Kp.refl _).drewN _).nw⟩
  · have hl : 3 < c.size := by omega
    have hwr : IntKind.i64.wrap 4 = 4 := by decide
    have y4 := e5 3 hl (by omega)
    have y5 := UInt8.toNat_lt (c[3]'hl)
    have HB : ∀ W t, (∀ b ∈ t.data.toList, b.toNat < 128) → Hid (Calls Tryd.prog 129 #[.string t, .int .u8 (((c[3]'hl).toNat : Nat) : Int)] W fun e w' => e = .returned (.int .i64 (-1)) ∧ w' = W) := fun W t ht => indexByte_high t _ ht y4 (by omega) W
    have y6 := bt_blanks 3 (by decide)
    have hq : (((((⟨#[9, 10, 13, 32]⟩ : ByteArray)[3]'(by decide)).toNat : Nat) : Int) == (((c[3]'hl).toNat : Nat) : Int)) = false := beq_eq_false_iff_ne.2 (by omega)
    clear e5
    go_enter Tryd.func99, Tryd.ntmps99
    go_wp2_with (go_at_call 130; refine (Tryd.utf8_ValidRune r _).mono ?_; rw [hv]; rintro e w' ⟨rfl, hq⟩; have hq2 := hq.symm; clear hq; subst hq2)
    go_step3
    go_wp2
    go_loopw [9, 10] (fun i f wr => i = .int .i64 3 ∧ f = .int .i64 0 ∧ wr = w) (fun _ _ _ => 0)
    case atStart => exact ⟨by first | rfl | (rw [hz]; rfl), rfl, rfl⟩
    case round =>
      obtain ⟨rfl, rfl, rfl⟩ := hrel
      go_wp2
      go_step3
      go_wp2
      go_quiet (fail)
      go_wp2
      go_quiet ((go_at_call 129; refine Calls.mono (HB _ _ (fun b hb => by simp at hb)).out ?_; rintro e w9 ⟨rfl, rfl⟩; exact ⟨rfl, _, rfl⟩))
      go_wp2
      rw [Exit.noGoto_ret]
      go_wp2
      rw [Exit.noGoto_ret]
      go_ret
      exact ⟨rfl, by first | exact (((Kp.refl _).drewN _).drewN _).nw | exact ((Kp.refl _).drewN _).nw⟩
theorem blankRune (W : World) (x : Nat) (hx : x ≤ 1114111) :
    Calls Tryd.prog 33 #[.int .i32 (x : Int)] W fun e w' => e = .returned (.bool (blankN x)) ∧ Nw W w' := by
  by_cases h : x < 128
  · have key : ∀ x : Nat, x < 128 → decide (0 ≤ Lib.indexByte (⟨#[9, 10, 13, 32]⟩ : ByteArray).data.toList ((x : Int)).toNat.toUInt8) = blankN x := by decide
    have k0 := key x h
    go_enter Tryd.func33, Tryd.ntmps33
    go_wp2_with (go_at_call 62; refine (Tryd.strings_ContainsRune_ascii _ x _ (by omega) (by omega)).mono ?_; rw [k0]; rintro e w' ⟨rfl, hq⟩; have hq2 := hq.symm; clear hq; subst hq2)
    go_ret
    exact ⟨rfl, Below.refl _ _⟩
  · have hb : blankN x = false := by unfold blankN; exact decide_eq_false (by omega)
    have key : ∀ w : World, Calls Tryd.prog 99 #[.string ⟨#[9, 10, 13, 32]⟩, .int .i32 (x : Int)] w fun e w' => e = .returned (.int .i64 (-1)) ∧ Nw w w' := fun w => by
      by_cases he : (x : Int) = 65533
      · rw [he]; exact indexRune_error w
      · cases hv : Lib.validRune (x : Int) with
        | false => exact indexRune_bad w x (by omega) (by omega) he hv
        | true => exact indexRune_far w x (by omega) (by omega) he hv
    have HK : ∀ w : World, Hid (Calls Tryd.prog 99 #[.string ⟨#[9, 10, 13, 32]⟩, .int .i32 (x : Int)] w fun e w' => e = .returned (.int .i64 (-1)) ∧ Nw w w') := key
    have cr : Hid (Calls Tryd.prog 62 #[.string ⟨#[9, 10, 13, 32]⟩, .int .i32 (x : Int)] W fun e w' => e = .returned (.bool false) ∧ Nw W w') := by
      clear key
      show Calls _ _ _ _ _
      go_enter Tryd.func62, Tryd.ntmps62
      go_wp2_with (go_at_call 99; refine Calls.mono (HK _).out ?_; rintro e w' ⟨rfl, k1⟩)
      go_ret
      exact ⟨rfl, k1⟩
    clear key HK
    go_enter Tryd.func33, Tryd.ntmps33
    go_wp2_with (go_at_call 62; refine Calls.mono cr.out ?_; rintro e w' ⟨rfl, k1⟩)
    go_ret
    exact ⟨by rw [hb]; rfl, k1⟩
end Go.Proofs.YtnkmdmmlpidcmaaDoor
