/-
  A rune held against the four blanks; each theorem names its conditions.
  The words of a text, as the program tells them: strings.FieldsFunc at the blanks; each theorem names its conditions.
  A selector read by the program; each theorem names its conditions.
  What the specification's draw of a part answers: some part that is not great, and nothing that was there but the reader is written; each theorem names its conditions.
-/
import Derived.Test.YtnkmdmmlpidcmaaGreatDoorJAD
import Derived.Test.YtnkmdmmlpidcmaaGreatDoorJAA
import Derived.Test.YtnkmdmmlpidcmaaGreatDoorJAI
import Derived.Test.YtnkmdmmlpidcmaaGreatDoorJAN
import Derived.Laws.RangeAny
import Derived.Laws.Runes
import Derived.WalkMore
import Derived.Test.YtnkmdmmlpidcmaaGreatDoorJAE
import Derived.Test.YtnkmdmmlpidcmaaGreatDoorJAB
import Derived.Test.YtnkmdmmlpidcmaaGreatDoorJAC
import Derived.Test.YtnkmdmmlpidcmaaGreatDoorJAH
import Derived.Deep.DeepCutAuto
namespace Go.Proofs.YtnkmdmmlpidcmaaGreatDoor
open Go.ChangeShapes Go.WideShapes Go.ChangeAt Go.RowKit
set_option linter.unusedVariables false

def blanksT : ByteArray := ⟨#[9, 10, 13, 32]⟩
theorem indexByte_high (t : ByteArray) (y : Nat) (ht : ∀ b ∈ t.data.toList, b.toNat < 128) (h1 : 128 ≤ y) (h2 : y ≤ 255) (W : World) :
    Calls Tryz.prog 151 #[.string t, .int .u8 (y : Int)] W fun e w' => e = .returned (.int .i64 (-1)) ∧ w' = W := by
  refine (Tryz.strings_IndexByte t y W).mono ?_
  rintro e w' ⟨rfl, rfl⟩
  refine ⟨?_, rfl⟩
  have hne : ∀ b ∈ t.data.toList, b ≠ (y : Int).toNat.toUInt8 := fun b hb e => by
    have h := ht b hb
    rw [e] at h
    simp at h
    omega
  rw [← Lib.firstIdx_eq, firstIdx_none _ _ hne]
theorem blanks_low (b : UInt8) (h : b ∈ (⟨#[9, 10, 13, 32]⟩ : ByteArray).data.toList) : b.toNat < 128 := by
  simp at h
  rcases h with rfl | rfl | rfl | rfl <;> decide
theorem bt_blanks (i : Nat) (h : i < (⟨#[9, 10, 13, 32]⟩ : ByteArray).size) : ((⟨#[9, 10, 13, 32]⟩ : ByteArray)[i]'h).toNat < 128 :=
  blanks_low _ (Array.getElem_mem_toList (xs := (⟨#[9, 10, 13, 32]⟩ : ByteArray).data) h)
set_option maxHeartbeats 4000000 in
set_option maxRecDepth 100000 in
theorem indexRune_error (w : World) :
    Calls Tryz.prog 110 #[.string ⟨#[9, 10, 13, 32]⟩, .int .i32 65533] w fun e w' => e = .returned (.int .i64 (-1)) ∧ Nw w w' := by
  have hsz : (⟨#[9, 10, 13, 32]⟩ : ByteArray).size = 4 := rfl
  have HL : Hid (∀ i (h : i < (⟨#[9, 10, 13, 32]⟩ : ByteArray).size), ((⟨#[9, 10, 13, 32]⟩ : ByteArray)[i]'h).toNat < 128) := bt_blanks
  generalize hS : (⟨#[9, 10, 13, 32]⟩ : ByteArray) = S at *
  clear hS
  go_enter Tryz.func110, Tryz.ntmps110
  go_wp2
  go_loopw [] (fun wr => ∃ pos : Nat, pos ≤ S.size ∧ wr = w.iter S pos) (fun wr => S.size - wr.iterPos w.heap.size)
  case atStart => exact ⟨0, Nat.zero_le _, rfl⟩
  case round =>
    obtain ⟨pos, hp, rfl⟩ := hrel
    by_cases hlt : pos < S.size
    · have ha := HL.out pos hlt
      have hnx : ∀ ty, (Instr.next (.pointer (some ⟨w.heap.size, 0, none⟩)) true ty).run Tryz.prog (w.iter S pos) = .ok (.tuple #[.bool true, .int .i64 pos, .int .i32 ((S[pos]'hlt).toNat : Int)]) (w.iter S (pos + 1)) := fun ty => by
        have := run_next_any (P := Tryz.prog) w S pos ty hlt
        rw [decode_ascii S pos hlt ha] at this
        exact this
      have hne : (((S[pos]'hlt).toNat : Int) == 65533) = false := beq_eq_false_iff_ne.2 (by omega)
      generalize (S[pos]'hlt).toNat = x at *
      clear hsz
      go_wp2
      go_roundw
      case rel => exact ⟨pos + 1, by omega, rfl⟩
      case measure => simp; omega
    · have hnx := fun ty => run_next_end (P := Tryz.prog) w S pos ty hlt
      clear hsz
      go_wp2
      go_ret
      exact ⟨rfl, (Below.refl _ _).alloc (Nat.le_refl _) _⟩
set_option maxHeartbeats 4000000 in
set_option maxRecDepth 100000 in
theorem indexRune_bad (w : World) (r : Int) (h1 : 128 ≤ r) (h2 : r ≤ 1114111) (he : ¬ r = 65533) (hv : Lib.validRune r = false) :
    Calls Tryz.prog 110 #[.string ⟨#[9, 10, 13, 32]⟩, .int .i32 r] w fun e w' => e = .returned (.int .i64 (-1)) ∧ Nw w w' := by
  have hne : (r == 65533) = false := beq_eq_false_iff_ne.2 he
  go_enter Tryz.func110, Tryz.ntmps110
  go_wp2_with (go_at_call 152; refine (Tryz.utf8_ValidRune r _).mono ?_; rw [hv]; rintro e w' ⟨rfl, hq⟩; have hq2 := hq.symm; clear hq; subst hq2)
  go_ret
  exact ⟨rfl, Below.refl _ _⟩
set_option maxHeartbeats 4000000 in
set_option maxRecDepth 100000 in
theorem indexRune_far (w : World) (r : Int) (h1 : 128 ≤ r) (h2 : r ≤ 1114111) (he : ¬ r = 65533) (hv : Lib.validRune r = true) :
    Calls Tryz.prog 110 #[.string ⟨#[9, 10, 13, 32]⟩, .int .i32 r] w fun e w' => e = .returned (.int .i64 (-1)) ∧ Nw w w' := by
  have hne : (r == 65533) = false := beq_eq_false_iff_ne.2 he
  have hval : Utf8.valid r = true := by rw [validRune_eq]; exact hv
  obtain ⟨e1, e2, e3⟩ := encode_facts r hval h1
  have hl : (Utf8.encode r).size - 1 < (Utf8.encode r).size := by omega
  have e4 := e3 hl
  generalize hc : Utf8.encode r = c at *
  clear e3 hval
  have hcc : c.size = 2 ∨ c.size = 3 ∨ c.size = 4 := by omega
  have e5 : ∀ j (h : j < c.size), j = c.size - 1 → 128 ≤ (c[j]'h).toNat := fun j h e => by subst e; exact e4
  clear e4 hl
  rcases hcc with hz | hz | hz
  · have hl : 1 < c.size := by omega
    have hwr : IntKind.i64.wrap 2 = 2 := by decide
    have y4 := e5 1 hl (by omega)
    have y5 := UInt8.toNat_lt (c[1]'hl)
    have HB : ∀ W t, (∀ b ∈ t.data.toList, b.toNat < 128) → Hid (Calls Tryz.prog 151 #[.string t, .int .u8 (((c[1]'hl).toNat : Nat) : Int)] W fun e w' => e = .returned (.int .i64 (-1)) ∧ w' = W) := fun W t ht => indexByte_high t _ ht y4 (by omega) W
    have y6 := bt_blanks 1 (by decide)
    have hq : (((((⟨#[9, 10, 13, 32]⟩ : ByteArray)[1]'(by decide)).toNat : Nat) : Int) == (((c[1]'hl).toNat : Nat) : Int)) = false := beq_eq_false_iff_ne.2 (by omega)
    clear e5
    go_enter Tryz.func110, Tryz.ntmps110
    go_wp2_with (go_at_call 152; refine (Tryz.utf8_ValidRune r _).mono ?_; rw [hv]; rintro e w' ⟨rfl, hq⟩; have hq2 := hq.symm; clear hq; subst hq2)
    go_step3
    go_wp2
    go_loopw [9, 10] (fun i f wr => i = .int .i64 1 ∧ f = .int .i64 0 ∧ wr = w) (fun _ _ _ => 0)
    case atStart => exact ⟨by first | rfl | (rw [hz]; rfl), rfl, rfl⟩
    case round =>
      obtain ⟨rfl, rfl, rfl⟩ := hrel
      go_wp2
      go_step3
      go_wp2
      go_quiet (fail)
      go_wp2
      go_quiet ((go_at_call 151; refine Calls.mono (HB _ _ (fun b hb => blanks_low b (mem_extract hb))).out ?_; rintro e w9 ⟨rfl, rfl⟩; exact ⟨rfl, _, rfl⟩))
      go_wp2
      rw [Exit.noGoto_ret]
      go_wp2
      rw [Exit.noGoto_ret]
      go_ret
      exact ⟨rfl, by first | exact (((Kp.refl _).drewN _).drewN _).nw | exact ((Kp.refl _).drewN _).nw⟩
  · have hl : 2 < c.size := by omega
    have hwr : IntKind.i64.wrap 3 = 3 := by decide
    have y4 := e5 2 hl (by omega)
    have y5 := UInt8.toNat_lt (c[2]'hl)
    have HB : ∀ W t, (∀ b ∈ t.data.toList, b.toNat < 128) → Hid (Calls Tryz.prog 151 #[.string t, .int .u8 (((c[2]'hl).toNat : Nat) : Int)] W fun e w' => e = .returned (.int .i64 (-1)) ∧ w' = W) := fun W t ht => indexByte_high t _ ht y4 (by omega) W
    have y6 := bt_blanks 2 (by decide)
    have hq : (((((⟨#[9, 10, 13, 32]⟩ : ByteArray)[2]'(by decide)).toNat : Nat) : Int) == (((c[2]'hl).toNat : Nat) : Int)) = false := beq_eq_false_iff_ne.2 (by omega)
    clear e5
    go_enter Tryz.func110, Tryz.ntmps110
    go_wp2_with (go_at_call 152; refine (Tryz.utf8_ValidRune r _).mono ?_; rw [hv]; rintro e w' ⟨rfl, hq⟩; have hq2 := hq.symm; clear hq; subst hq2)
    go_step3
    go_wp2
    go_loopw [9, 10] (fun i f wr => i = .int .i64 2 ∧ f = .int .i64 0 ∧ wr = w) (fun _ _ _ => 0)
    case atStart => exact ⟨by first | rfl | (rw [hz]; rfl), rfl, rfl⟩
    case round =>
      obtain ⟨rfl, rfl, rfl⟩ := hrel
      go_wp2
      go_step3
      go_wp2
      go_quiet (fail)
      go_wp2
      go_quiet ((go_at_call 151; refine Calls.mono (HB _ _ (fun b hb => blanks_low b (mem_extract hb))).out ?_; rintro e w9 ⟨rfl, rfl⟩; exact ⟨rfl, _, rfl⟩))
      go_wp2
      rw [Exit.noGoto_ret]
      go_wp2
      rw [Exit.noGoto_ret]
      go_ret
      exact ⟨rfl, by first | exact (((Kp.refl _).drewN _).drewN _).nw | exact ((Kp.refl _).drewN _).nw⟩
  · have hl : 3 < c.size := by omega
    have hwr : IntKind.i64.wrap 4 = 4 := by decide
    have y4 := e5 3 hl (by omega)
    have y5 := UInt8.toNat_lt (c[3]'hl)
    have HB : ∀ W t, (∀ b ∈ t.data.toList, b.toNat < 128) → Hid (Calls Tryz.prog 151 #[.string t, .int .u8 (((c[3]'hl).toNat : Nat) : Int)] W fun e w' => e = .returned (.int .i64 (-1)) ∧ w' = W) := fun W t ht => indexByte_high t _ ht y4 (by omega) W
    have y6 := bt_blanks 3 (by decide)
    have hq : (((((⟨#[9, 10, 13, 32]⟩ : ByteArray)[3]'(by decide)).toNat : Nat) : Int) == (((c[3]'hl).toNat : Nat) : Int)) = false := beq_eq_false_iff_ne.2 (by omega)
    clear e5
    go_enter Tryz.func110, Tryz.ntmps110
    go_wp2_with (go_at_call 152; refine (Tryz.utf8_ValidRune r _).mono ?_; rw [hv]; rintro e w' ⟨rfl, hq⟩; have hq2 := hq.symm; clear hq; subst hq2)
    go_step3
    go_wp2
    go_loopw [9, 10] (fun i f wr => i = .int .i64 3 ∧ f = .int .i64 0 ∧ wr = w) (fun _ _ _ => 0)
    case atStart => exact ⟨by first | rfl | (rw [hz]; rfl), rfl, rfl⟩
    case round =>
      obtain ⟨rfl, rfl, rfl⟩ := hrel
      go_wp2
      go_step3
      go_wp2
      go_quiet (fail)
      go_wp2
      go_quiet ((go_at_call 151; refine Calls.mono (HB _ _ (fun b hb => by simp at hb)).out ?_; rintro e w9 ⟨rfl, rfl⟩; exact ⟨rfl, _, rfl⟩))
      go_wp2
      rw [Exit.noGoto_ret]
      go_wp2
      rw [Exit.noGoto_ret]
      go_ret
      exact ⟨rfl, by first | exact (((Kp.refl _).drewN _).drewN _).nw | exact ((Kp.refl _).drewN _).nw⟩
theorem blankRune (W : World) (x : Nat) (hx : x ≤ 1114111) :
    Calls Tryz.prog 40 #[.int .i32 (x : Int)] W fun e w' => e = .returned (.bool (blankN x)) ∧ Nw W w' := by
  by_cases h : x < 128
  · have key : ∀ x : Nat, x < 128 → decide (0 ≤ Lib.indexByte (⟨#[9, 10, 13, 32]⟩ : ByteArray).data.toList ((x : Int)).toNat.toUInt8) = blankN x := by decide
    have k0 := key x h
    go_enter Tryz.func40, Tryz.ntmps40
    go_wp2_with (go_at_call 75; refine (Tryz.strings_ContainsRune_ascii _ x _ (by omega) (by omega)).mono ?_; rw [k0]; rintro e w' ⟨rfl, hq⟩; have hq2 := hq.symm; clear hq; subst hq2)
    go_ret
    exact ⟨rfl, Below.refl _ _⟩
  · have hb : blankN x = false := by unfold blankN; exact decide_eq_false (by omega)
    have key : ∀ w : World, Calls Tryz.prog 110 #[.string ⟨#[9, 10, 13, 32]⟩, .int .i32 (x : Int)] w fun e w' => e = .returned (.int .i64 (-1)) ∧ Nw w w' := fun w => by
      by_cases he : (x : Int) = 65533
      · rw [he]; exact indexRune_error w
      · cases hv : Lib.validRune (x : Int) with
        | false => exact indexRune_bad w x (by omega) (by omega) he hv
        | true => exact indexRune_far w x (by omega) (by omega) he hv
    have HK : ∀ w : World, Hid (Calls Tryz.prog 110 #[.string ⟨#[9, 10, 13, 32]⟩, .int .i32 (x : Int)] w fun e w' => e = .returned (.int .i64 (-1)) ∧ Nw w w') := key
    have cr : Hid (Calls Tryz.prog 75 #[.string ⟨#[9, 10, 13, 32]⟩, .int .i32 (x : Int)] W fun e w' => e = .returned (.bool false) ∧ Nw W w') := by
      clear key
      show Calls _ _ _ _ _
      go_enter Tryz.func75, Tryz.ntmps75
      go_wp2_with (go_at_call 110; refine Calls.mono (HK _).out ?_; rintro e w' ⟨rfl, k1⟩)
      go_ret
      exact ⟨rfl, k1⟩
    clear key HK
    go_enter Tryz.func40, Tryz.ntmps40
    go_wp2_with (go_at_call 75; refine Calls.mono cr.out ?_; rintro e w' ⟨rfl, k1⟩)
    go_ret
    exact ⟨by rw [hb]; rfl, k1⟩
end Go.Proofs.YtnkmdmmlpidcmaaGreatDoor
namespace Go.Proofs.YtnkmdmmlpidcmaaGreatDoor
open Go.ChangeShapes Go.WideShapes Go.ChangeAt Go.RowKit Go.Shelf
set_option linter.unusedVariables false

theorem blank_pays (w : World) : PredGrows Tryz.prog 40 #[] blankN w := by
  intro W x hx hb
  exact blankRune W x hx
theorem iwords (w : World) (s : ByteArray) (hs : s.size ≤ 1048576) :
    Calls Tryz.prog 39 #[.string s, .func (.func 40) #[] #[]] w fun e w' => ∃ v, e = .returned v ∧ Txs w' w.heap.size v (wordsOf s) ∧ Nw w w' := by
  refine (Tryz.strings_FieldsFunc_grows 40 #[] (enters_of Tryz.func40 (by kernel_rfl) rfl) blankN s w (by omega) (blank_pays w)).mono ?_
  rintro e w' ⟨g, rfl, hg, hown, hb⟩
  rw [fields_words] at hown
  refine ⟨_, rfl, ?_, hb⟩
  rw [fields_words]
  exact hown
end Go.Proofs.YtnkmdmmlpidcmaaGreatDoor
namespace Go.Proofs.YtnkmdmmlpidcmaaGreatDoor
open Go.ChangeShapes Go.WideShapes Go.ChangeAt Go.RowKit
set_option linter.unusedVariables false

theorem els_len {α : Type} {els : List (El α)} {xs : List α} (h : els.map El.x = xs) : els.length = xs.length := by rw [← h, List.length_map]
theorem all_take {ws : List ByteArray} {k : Nat} (h : (ws.take k).all okW = true) (hk : k < ws.length) (hx : okW (strAt ws k) = true) : (ws.take (k + 1)).all okW = true := by
  rw [List.take_succ_eq_append_getElem hk, List.all_append, h]
  have e : strAt ws k = ws[k] := by simp [strAt, hk]
  rw [e] at hx
  simp [hx]
theorem map_take {ws : List ByteArray} {k : Nat} (hk : k < ws.length) : (ws.take (k + 1)).map prD = (ws.take k).map prD ++ [prD (strAt ws k)] := by
  rw [List.take_succ_eq_append_getElem hk, List.map_append]
  simp [strAt, hk]
theorem str_mem {ws : List ByteArray} {k : Nat} (hk : k < ws.length) : strAt ws k ∈ ws := by
  have e : strAt ws k = ws[k] := by simp [strAt, hk]
  rw [e]
  exact List.getElem_mem _
set_option maxHeartbeats 8000000 in
theorem ireadSel (w : World) (s : ByteArray) (hs : s.size ≤ 1048576) :
    Calls Tryz.prog 14 #[.string s] w fun e w' => SelSays s w w' e ∧ Nw w w' := by
  have HSZ : Hid (∀ i, (strAt (wordsOf s) i).size ≤ 1048576) := fun i => Nat.le_trans (wordsOf_size s i) hs
  have HWL : Hid ((wordsOf s).length ≤ 1048577) := Nat.le_trans (wordsOf_len s) (by omega)
  have hso : selOk s = selOkW (wordsOf s) := rfl
  have hsl : selL s = selLW (wordsOf s) := rfl
  unfold SelSays
  rw [hso, hsl]
  clear hso hsl
  have HI : Hid (Calls Tryz.prog 39 #[.string s, .func (.func 40) #[] #[]] w fun e w' => ∃ v, e = .returned v ∧ Txs w' w.heap.size v (wordsOf s) ∧ Nw w w') := iwords w s hs
  generalize wordsOf s = ws at *
  have hwl : ws.length ≤ 1048577 := HWL.out
  go_enter Tryz.func14, Tryz.ntmps14
  go_wp2_with fail
  refine Calls.mono HI.out ?_
  rintro e w1 ⟨v, rfl, hv, k1⟩
  clear HI
  obtain ⟨a, c, rfl, hst⟩ := hv.strs
  have HST : Hid (Strs w1 a ws) := hst
  have HN1 : Hid (Nw w w1) := k1
  clear hv hst k1
  go_wp2
  go_loopw [4, 12] (fun v i wr => ∃ (k : Nat) (els : List (El PD)), k ≤ ws.length ∧ k ≤ 5 ∧ i = .int .i64 k ∧ RowO 67 3 EPart wr w1.heap.size v els ∧ els.map El.x = (ws.take k).map prD ∧ (ws.take k).all okW = true ∧ Nw w1 wr) (fun _ i _ => ws.length - (intOf i).toNat)
  case atStart => exact ⟨0, [], Nat.zero_le _, by omega, rfl, RowO.nil _ _ _ _ _, rfl, rfl, Below.refl _ _⟩
  case round =>
    obtain ⟨k, els, hk, hk5, rfl, hro, hmx, hall, hw⟩ := hrel
    have hel : els.length = k := by rw [els_len hmx, List.length_map, List.length_take]; omega
    obtain ⟨va, vc, hv⟩ := hro.slice
    subst hv
    have HEL : Hid (els.length = k) := hel
    rw [hel] at hro ⊢
    have HR : Hid (RowO 67 3 EPart wr w1.heap.size (.slice va k vc) els) := hro
    have HM : Hid (els.map El.x = (ws.take k).map prD) := hmx
    have HA : Hid ((ws.take k).all okW = true) := hall
    have HW : Hid (Nw w1 wr) := hw
    clear hro hmx hall hel
    by_cases hlt : k < ws.length
    · rcases (HST.out.nw hw) with h | ⟨b, o, rfl, hb, hc⟩
      · rw [h] at hlt; simp at hlt
      have q0 := hc k hlt
      have hz := HSZ.out k
      have HMT : Hid ((ws.take (k + 1)).map prD = (ws.take k).map prD ++ [prD (strAt ws k)]) := map_take hlt
      have HAT : Hid (okW (strAt ws k) = true → (ws.take (k + 1)).all okW = true) := fun h => all_take HA.out hlt h
      have HBD : Hid (okW (strAt ws k) = false → selOkW ws = false) := fun h => selOkW_bad (str_mem hlt) h
      clear hc hw
      generalize strAt ws k = x at *
      go_wp2_with fail
      refine Calls.mono (ipartOf _ x hz) ?_
      rintro e w2 ⟨⟨p, u, hp, rfl, hu⟩ | ⟨hp, tx, ty, ta, tn, tc, rfl⟩, k2⟩
      · obtain ⟨hd, hok⟩ := prD_of hp
        by_cases h5 : k = 5
        · have HX : Hid (selOkW ws = false) := selOkW_many (by omega)
          have HN2 : Hid (Nw w w2) := Nw.trans HN1.out (Nw.trans HW.out k2)
          obtain ⟨ua, uc, rfl, _⟩ := hu.slice
          subst h5
          clear hu k2 q0 hp hd hok
          go_wp2
          go_ret2
          refine ⟨⟨.slice none 0 0, by rw [HX.out]; rfl, by rw [selLW_no HX.out]; exact RowM.nil _ _ _ _⟩, ?_⟩
          exact HN2.out.alloc (Below.size HN2.out) _
        · obtain ⟨ua, uc, rfl, _⟩ := hu.slice
          have HU : Hid (RowM 1 EStr w2 (.slice ua p.cls.length uc) p.cls (iv wr w2)) := hu
          have HK2 : Hid (Nw wr w2) := k2
          have HD : Hid (prD x = p) := hd
          have HOK : Hid (okW x = true) := hok
          have h5I : ((k : Int) == 5) = false := by simp; omega
          clear hu k2 q0 hp hd hok
          have HNA : ∀ o1 o2, Hid (Nw wr ((w2.alloc o1).alloc o2)) := fun o1 o2 => Nw.trans HK2.out (((Below.refl _ _).alloc (Nat.le_refl _) _).alloc (by simp) _)
          have HEP : ∀ o1 o2, Hid (EPart ((w2.alloc o1).alloc o2) [.string p.ty, .string p.id, .slice ua p.cls.length uc] p (iv wr ((w2.alloc o1).alloc o2))) := fun o1 o2 => ⟨_, rfl, (HU.out.nw EStr.kept (((Below.refl _ _).alloc (Nat.le_refl _) _).alloc (by simp) _)).mono (iv_mono (by simp; omega))⟩
          go_wp2_with (at_builtin; (refine wp_rw EPart.kept Tryz.underlying34 Tryz.info67 rfl (by decide) (by decide) wr _ rfl _ _ rfl w1.heap.size _ els rfl HR.out (HNA _ _).out (Below.size HW.out) _ rfl p [.string p.ty, .string p.id, .slice ua p.cls.length uc] ?c1 rfl ?c2 (HEP _ _).out (by rw [HEL.out]; omega) ?_))
          case c1 =>
            intro j y hj
            rcases (show j = 0 ∨ j = 1 ∨ j = 2 ∨ 3 ≤ j by omega) with rfl | rfl | rfl | h
            · simp at hj; subst hj; simp
            · simp at hj; subst hj; simp
            · simp at hj; subst hj; simp
            · rw [List.getElem?_eq_none (by simpa using h)] at hj; cases hj
          case c2 =>
            intro y hy
            simp only [List.mem_cons, List.not_mem_nil, or_false] at hy
            rcases hy with rfl | rfl | rfl <;> rfl
          intro v' w' h1 h2
          have HN : Hid (Nw w1 w') := Below.trans (HW.out.trans (HNA _ _).out) (Ext.below h2 (fun g e => (HR.out.lt g e).1) (Nat.le_trans (Below.size HW.out) (Below.size (HNA _ _).out)))
          have H1 : Hid _ := h1
          clear h1 h2
          go_wp2
          go_roundw
          case rel => exact ⟨k + 1, _, by omega, by omega, by go_num, H1.out, by rw [List.map_append, HM.out, HMT.out, HD.out]; rfl, HAT.out HOK.out, HN.out⟩
          case measure => simp [intOf]; omega
      · have HX : Hid (selOkW ws = false) := HBD.out (okW_no hp)
        have HN2 : Hid (Nw w w2) := Nw.trans HN1.out (Nw.trans HW.out k2)
        clear k2 q0 hp
        go_wp2
        go_ret2
        refine ⟨⟨.slice none 0 0, by rw [HX.out]; rfl, by rw [selLW_no HX.out]; exact RowM.nil _ _ _ _⟩, ?_⟩
        exact HN2.out.alloc (Below.size HN2.out) _
    · have hk2 : k = ws.length := by omega
      have hA := HA.out
      have hM := HM.out
      rw [hk2, List.take_length] at hA hM
      obtain ⟨e1, e2⟩ := selW_end (by omega) hA
      have HE1 : Hid (selOkW ws = decide (0 < k)) := by show _ = _; rw [e1, hk2]
      have HE2 : Hid (els.map El.x = selLW ws) := by show _ = _; rw [e2, hM]
      clear e1 e2 hA hM hw hk2
      have hkn : ¬ ((k : Int) < (ws.length : Int)) := by omega
      go_wp2
      go_ret2
      refine ⟨⟨_, by rw [HE1.out]; first | rfl | simp, ?_⟩, Nw.trans HN1.out HW.out⟩
      rw [← HE2.out]
      exact RowO.row HR.out (fun b h1 h2 => ⟨Nat.le_trans (Below.size HN1.out) h1, h2⟩)
end Go.Proofs.YtnkmdmmlpidcmaaGreatDoor
namespace Go.Proofs.YtnkmdmmlpidcmaaGreatDoor
open Go.ChangeShapes Go.WideShapes Go.ChangeAt Go.RowKit
set_option linter.unusedVariables false

theorem Gr.like {B : Nat} {a a' c : World} (h : Gr B a' c) (e1 : a'.os = a.os) (e2 : a'.tape = a.tape) (e3 : a'.output = a.output) (e4 : a'.heap = a.heap) : Gr B a c := by
  have h' : a'.grownBy c (some B) := h
  exact ⟨h'.os.trans e1, h'.tape.trans e2, h'.output.trans e3, by rw [← e4]; exact h'.size, fun i hi hne => by rw [← e4] at hi ⊢; exact h'.block i hi hne⟩
theorem Txs.gr {w w' : World} {B b : Nat} {v : Value} {l : List ByteArray} (h : Txs w B v l) (k : Gr b w w') (hb : b < B) : Txs w' B v l :=
  World.ownsRow.kept h k (Or.inr (fun e => by have := (World.ownsRow.lt h b e).1; omega))
theorem CvP.gr {bx b : Nat} {w w' : World} {p q : ByteArray} {v : Value} {l : List ByteArray} (h : CvP bx w p q v l) (k : Gr b w w') (hb : b < bx) : CvP bx w' p q v l := by
  have e := fun o => k.cell h.lt (by omega) o
  exact ⟨(e 0).trans h.c0, (e 1).trans h.c1, (e 2).trans h.c2, fun o => (k.frozen h.lt (by omega) o).trans (h.free o), h.own.gr k (by omega)⟩
theorem Gr.up {B P : Nat} {a b c : World} (h : Gr B a b) (k : Below P b c) (hP : a.heap.size ≤ P) : Gr B a c := by
  have h' : a.grownBy b (some B) := h
  exact ⟨(Below.os k).trans h'.os, (Below.tape k).trans h'.tape, (Below.output k).trans h'.output, Nat.le_trans h'.size (Below.size k), fun i hi hne => (Below.block k i (by omega)).trans (h'.block i hi hne)⟩
/-- A part in a variable behind the answer's, beside a reader. -/
structure PG (B : Nat) (w wx : World) (ty id : ByteArray) (v : Value) (cls : List ByteArray) : Prop where
  box : CvP (w.heap.size + 1) wx ty id v cls
  z : CvP w.heap.size wx ⟨#[]⟩ ⟨#[]⟩ (.slice none 0 0) []
  g : Gr B w wx
theorem PG.new {B : Nat} (w : World) (t : TypeId) : PG B w ((w.alloc (.cells #[.string ⟨#[]⟩, .string ⟨#[]⟩, .slice none 0 0] t)).alloc (.cells #[.string ⟨#[]⟩, .string ⟨#[]⟩, .slice none 0 0] t)) ⟨#[]⟩ ⟨#[]⟩ (.slice none 0 0) [] :=
  ⟨(PSt.new w t).box, (PSt.new w t).z, Gr.of_nw (PSt.new w t).nw⟩
theorem PG.go {B : Nat} {w wx wy : World} {ty id : ByteArray} {v : Value} {cls : List ByteArray} (h : PG B w wx ty id v cls) (k : Gr B wx wy) (hB : B < w.heap.size) : PG B w wy ty id v cls :=
  ⟨h.box.gr k (by omega), h.z.gr k hB, h.g.trans k⟩
theorem PG.ty {B : Nat} {w wx : World} {ty id : ByteArray} {v : Value} {cls : List ByteArray} (h : PG B w wx ty id v cls) (ty' : ByteArray) : PG B w (wx.setCell ⟨w.heap.size + 1, 0, none⟩ (.string ty')) ty' id v cls :=
  ⟨h.box.ty ty', h.z.off _ _ _ (by omega) (by simp [Value.ownBlock]), h.g.set (by omega) _ _⟩
theorem PG.id {B : Nat} {w wx : World} {ty id : ByteArray} {v : Value} {cls : List ByteArray} (h : PG B w wx ty id v cls) (id' : ByteArray) : PG B w (wx.setCell ⟨w.heap.size + 1, 1, none⟩ (.string id')) ty id' v cls :=
  ⟨h.box.id id', h.z.off _ _ _ (by omega) (by simp [Value.ownBlock]), h.g.set (by omega) _ _⟩
theorem PG.put {B : Nat} {w wx w' : World} {ty id : ByteArray} {v v' : Value} {cls cls' : List ByteArray} (h : PG B w wx ty id v cls) (k : Ext v v' wx w') (ho : Txs w' (w.heap.size + 1 + 1) v' cls') : PG B w (w'.setCell ⟨w.heap.size + 1, 2, none⟩ v') ty id v' cls' := by
  obtain ⟨h1, h2⟩ := h.box.put k ho
  exact ⟨h1, h.z.low h2 (Nat.lt_succ_self _), h.g.up h2 (by omega)⟩
theorem PG.done {B : Nat} {w w9 : World} {ty id : ByteArray} {va : Option Addr} {vc : Nat} {D : List ByteArray} (h : PG B w w9 ty id (.slice va D.length vc) D) (u0 u1 u2 : Value) :
    RowM 1 EStr (((w9.setCell ⟨w.heap.size, 0, none⟩ u0).setCell ⟨w.heap.size, 1, none⟩ u1).setCell ⟨w.heap.size, 2, none⟩ u2) (.slice va D.length vc) D (iv w (((w9.setCell ⟨w.heap.size, 0, none⟩ u0).setCell ⟨w.heap.size, 1, none⟩ u1).setCell ⟨w.heap.size, 2, none⟩ u2)) := by
  have hne : (Value.slice va D.length vc).ownBlock ≠ some w.heap.size := fun e => by have := (World.ownsRow.lt h.box.own _ e).1; omega
  exact RowM.ofTxs (((h.box.own.far _ _ _ hne).far _ _ _ hne).far _ _ _ hne) (fun b h1 h2 => ⟨by omega, h2⟩)
theorem bulk1_snoc (l : List ByteArray) (x : ByteArray) : bulk1 (l ++ [x]) = bulk1 l + x.size := by simp [bulk1]
theorem run_tx {o : Oper} {a : Act} (w : World) (s x : Operand)
    (ho : o.op = .call { callee := .builtin .append, args := #[s, x], argTypes := #[65, 65] })
    (B : Nat) (v : Value) (l : List ByteArray) (t : ByteArray) (hs : a.eval s = v) (hown : Txs w B v l) (g : Nat) (hx : a.eval x = .slice (some ⟨g, 0, none⟩) 1 1) (hc : w.cell? ⟨g, 0, none⟩ = some (.string t))
    (h63 : l.length ≤ 10000000) (hB : B ≤ w.heap.size) :
    ∃ v' w', (execOp a.eval o).run Tryz.prog w = .ok (.value v') w' ∧ Txs w' B v' (l ++ [t]) ∧ Ext v v' w w' := by
  obtain ⟨i0, hi, hz0, hz1, hz2⟩ := txs_parts
  obtain ⟨v', w', hr, h2, h3, h4, h5⟩ := run_append_own_at (P := Tryz.prog) w B 65 o.type 9 i0 (.string ⟨#[]⟩) 1 16 Tryz.underlying65 hi hz0 hz1 hz2 rfl (by decide) v l.length (l.map Value.string) hown ⟨g, 0, none⟩ 1 1 [.string t] rfl (fun j u hj => by
    cases j with
    | zero => simp at hj; subst hj; simpa [Addr.add] using hc
    | succ j => simp at hj) (fun u hu => by simp at hu; subst hu; rfl) (by unfold maxLen; omega) (by omega) hB
  refine ⟨v', w', ?_, ?_, ⟨h3, h5.imp id fun e => ⟨_, e, Nat.le_refl _⟩⟩⟩
  · unfold execOp
    simp only [ho, resolve, invoke, builtin, Sem.run_bind, Sem.run_pure, Result.andThen_ok, List.map_toArray, List.map_cons, List.map_nil, hs, hx, hr]
  · unfold Txs
    rw [List.length_append, List.map_append]
    exact h2
end Go.Proofs.YtnkmdmmlpidcmaaGreatDoor
