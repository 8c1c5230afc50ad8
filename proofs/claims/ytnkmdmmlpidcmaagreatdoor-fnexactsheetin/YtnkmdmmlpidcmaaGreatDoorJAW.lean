/-
  Where a text has its first rune that may not be there, the program's look and the specification's; each theorem names its conditions.
  Attributes that are good, elements and texts: the program's looks and the specification's; each theorem names its conditions.
  Elements and texts that are good: the program's looks; each theorem names its conditions.
  Whether a node may stand where it stands: the program's look; each theorem names its conditions.
-/
import Derived.Test.YtnkmdmmlpidcmaaGreatDoorJAT
import Derived.Test.YtnkmdmmlpidcmaaGreatDoorJAK
import Derived.Test.YtnkmdmmlpidcmaaGreatDoorJAA
import Derived.Lib.RuneCountTail
import Derived.Lib.MapLaws
import Derived.Test.YtnkmdmmlpidcmaaGreatDoorJAS
import Derived.Deep.RegionWith
import Derived.Deep.RegionHeld3
namespace Go.Proofs.YtnkmdmmlpidcmaaGreatDoor
open Go.ChangeShapes Go.WideShapes Go.ChangeAt Go.RowKit
set_option linter.unusedVariables false

def Tb (w : World) : Prop := Lib.Utf8Tabs 2 3 w
theorem Tb.nw {w w' : World} (h : Tb w) (k : Nw w w') : Tb w' := by
  refine ⟨fun c hc => ?_, fun i hi => ⟨?_, ?_⟩⟩
  · have e := h.1 c hc
    exact (Below.cell k (World.block_lt_of_cell? w _ e)).trans e
  · have e := (h.2 i hi).1
    exact (Below.cell k (World.block_lt_of_cell? w _ e)).trans e
  · have e := (h.2 i hi).2
    exact (Below.cell k (World.block_lt_of_cell? w _ e)).trans e

def wd (s : ByteArray) (k : Nat) : Nat := (Utf8.decode s k).2
theorem rn_wd (s : ByteArray) (k : Nat) : (rn s k).2 = (wd s k : Int) := by
  unfold rn wd
  split
  · rename_i h; rw [h.2]; rfl
  · rfl
theorem wd_bd (s : ByteArray) (k : Nat) (h : k < s.size) : 1 ≤ wd s k ∧ k + wd s k ≤ s.size := by
  have hl : (s.data.toList.drop k) ≠ [] := by
    intro e
    have := congrArg List.length e
    simp at this
    have h2 : s.data.size = s.size := rfl
    omega
  have h1 := Lib.decodeL_le _ hl
  have h2 := Lib.decodeL_width (s.data.toList.drop k)
  rw [Lib.decodeL_drop] at h1 h2
  have h3 : (s.data.toList.drop k).length = s.size - k := by rw [List.length_drop, Array.length_toList]; rfl
  unfold wd
  omega
theorem rn_tail (s : ByteArray) (k : Nat) : rn (s.extract k s.size) 0 = rn s k := by
  unfold rn; rw [Lib.tail_decode, Nat.add_zero]
/-- Where the first rune stands that may not be there; the end, or more, where there is none. -/
def badFrom (s : ByteArray) : Nat → Nat → Nat
  | 0, k => k
  | f + 1, k => if s.size ≤ k then k else if mayB (rn s k).1 = true then badFrom s f (k + wd s k) else k
def wrong (s : ByteArray) : Nat := badFrom s s.size 0
theorem badFrom_eq (s : ByteArray) : ∀ f g k, s.size - k ≤ f → s.size - k ≤ g → badFrom s f k = badFrom s g k := by
  intro f
  induction f with
  | zero =>
    intro g k h _
    cases g with
    | zero => rfl
    | succ g => rw [badFrom, badFrom, if_pos (by omega)]
  | succ f ih =>
    intro g k h h2
    cases g with
    | zero => rw [badFrom, badFrom, if_pos (by omega)]
    | succ g =>
      rw [badFrom, badFrom]
      by_cases hk : s.size ≤ k
      · rw [if_pos hk, if_pos hk]
      · have hw := wd_bd s k (by omega)
        rw [if_neg hk, if_neg hk]
        split
        · exact ih g _ (by omega) (by omega)
        · rfl
def badAt (s : ByteArray) (k : Nat) : Nat := badFrom s s.size k
theorem badAt_step (s : ByteArray) (k : Nat) (h : k < s.size) (hm : mayB (rn s k).1 = true) : badAt s k = badAt s (k + wd s k) := by
  have hw := wd_bd s k h
  obtain ⟨f, hf⟩ : ∃ f, s.size = f + 1 := ⟨s.size - 1, by omega⟩
  have e : badFrom s s.size k = badFrom s (f + 1) k := badFrom_eq s _ _ k (by omega) (by omega)
  unfold badAt
  rw [e, badFrom, if_neg (by omega), if_pos hm]
  exact badFrom_eq s _ _ _ (by omega) (by omega)
theorem badAt_stop (s : ByteArray) (k : Nat) (h : k < s.size) (hm : ¬ mayB (rn s k).1 = true) : badAt s k = k := by
  obtain ⟨f, hf⟩ : ∃ f, s.size = f + 1 := ⟨s.size - 1, by omega⟩
  have e : badFrom s s.size k = badFrom s (f + 1) k := badFrom_eq s _ _ k (by omega) (by omega)
  unfold badAt
  rw [e, badFrom, if_neg (by omega), if_neg hm]
theorem badAt_end (s : ByteArray) : badAt s s.size = s.size := by
  have e : badFrom s s.size s.size = badFrom s 0 s.size := badFrom_eq s _ _ _ (by omega) (by omega)
  unfold badAt
  rw [e, badFrom]
theorem wrong_at (s : ByteArray) : wrong s = badAt s 0 := rfl

def sbadV (s : ByteArray) : Int := if wrong s < s.size then (wrong s : Int) else -1
set_option maxHeartbeats 1000000 in
theorem sbad (w : World) (s : ByteArray) (hs : s.size ≤ 1048576) : Calls Tryz.prog 91 #[.string s] w fun e w' => e = .returned (.int .i64 (sbadV s)) ∧ w' = w := by
  go_enter Tryz.func91, Tryz.ntmps91
  go_wp2
  go_loop [3] (fun i => ∃ k : Nat, k ≤ s.size ∧ i = .int .i64 k ∧ wrong s = badAt s k) (fun i => s.size - (intOf i).toNat)
  case atStart => exact ⟨0, Nat.zero_le _, rfl, rfl⟩
  case round =>
    obtain ⟨k, hk, rfl, hw⟩ := hrel
    have HW : Hid (wrong s = badAt s k) := hw
    clear hw
    by_cases hlt : k < s.size
    · have hwd := wd_bd s k hlt
      have hx1 : 0 < (s.extract k s.size).size := by rw [Lib.tail_size]; omega
      have hx2 : (s.extract k s.size).size ≤ 1048576 := by rw [Lib.tail_size]; omega
      have HR := rn_tail s k
      have HD := rn_wd s k
      by_cases hm : mayB (rn s k).1 = true
      · have HS : Hid (badAt s k = badAt s (k + wd s k)) := badAt_step s k hlt hm
        go_wp2_with (first | (go_at_call 122; refine (srune _ _ hx1 hx2).mono ?_; rw [HR, HD]; rintro e w' ⟨rfl, rfl⟩) | (go_at_call 123; refine (smay _ _).mono ?_; rw [hm]; rintro e w' ⟨rfl, rfl⟩))
        go_round
        case rel => exact ⟨k + wd s k, by omega, by go_num, by rw [HW.out, HS.out]⟩
        case measure => simp [intOf]; omega
      · have hm' : mayB (rn s k).1 = false := by simpa using hm
        have HS : Hid (wrong s = k) := by show wrong s = k; rw [HW.out]; exact badAt_stop s k hlt hm
        clear hm
        go_wp2_with (first | (go_at_call 122; refine (srune _ _ hx1 hx2).mono ?_; rw [HR, HD]; rintro e w' ⟨rfl, rfl⟩) | (go_at_call 123; refine (smay _ _).mono ?_; rw [hm']; rintro e w' ⟨rfl, rfl⟩))
        go_ret
        exact ⟨ret_int (by unfold sbadV; rw [HS.out, if_pos hlt]), rfl⟩
    · have e : k = s.size := by omega
      have HS : Hid (wrong s = s.size) := by show wrong s = s.size; rw [HW.out, e, badAt_end]
      go_wp2
      go_ret
      exact ⟨ret_int (by unfold sbadV; rw [HS.out, if_neg (by omega)]), rfl⟩

theorem decode_valid (s : ByteArray) (k : Nat) : Lib.validRune ((Utf8.decode s k).1 : Int) = true := by
  rw [Lib.decode_at]
  have h0 := UInt8.toNat_lt (s.get! k)
  generalize (s.get! k).toNat = b0 at *
  generalize (s.get! (k + 1)).toNat = b1
  generalize (s.get! (k + 2)).toNat = b2
  generalize (s.get! (k + 3)).toNat = b3
  generalize s.size - k = n
  unfold Lib.decodeN Lib.validRune
  simp only [decide_eq_true_eq]
  repeat' split
  all_goals (simp only; omega)
theorem igoodRune (w : World) (c : Int) (hv : Lib.validRune c = true) : Calls Tryz.prog 179 #[.int .i32 c] w fun e w' => e = .returned (.bool (mayB c)) ∧ w' = w := by
  go_enter Tryz.func179, Tryz.ntmps179
  go_wp2_with (go_at_call 152; refine (Tryz.utf8_ValidRune _ _).mono ?_; rw [hv]; rintro e w' ⟨rfl, rfl⟩)
  all_goals
    go_ret
    exact ⟨ret_bool (by rw [Bool.eq_iff_iff]; simp [mayB]; omega), rfl⟩

set_option maxHeartbeats 1000000 in
theorem iwrong (w : World) (s : ByteArray) (hs : s.size ≤ 1048576) (ht : Tb w) : Calls Tryz.prog 160 #[.string s] w fun e w' => e = .returned (.int .i64 (wrong s)) ∧ Nw w w' := by
  have HT : Hid (Tb w) := ht
  clear ht
  go_enter Tryz.func160, Tryz.ntmps160
  go_wp2
  go_loopw [3] (fun i wr => ∃ k : Nat, k ≤ s.size ∧ i = .int .i64 k ∧ wrong s = badAt s k ∧ Nw w wr) (fun i _ => s.size - (intOf i).toNat)
  case atStart => exact ⟨0, Nat.zero_le _, rfl, rfl, Below.refl _ _⟩
  case round =>
    obtain ⟨k, hk, rfl, hw, hnw⟩ := hrel
    have HW : Hid (wrong s = badAt s k) := hw
    have HN : Hid (Nw w wr) := hnw
    clear hw hnw
    by_cases hlt : k < s.size
    · have hwd := wd_bd s k hlt
      have HG : Lib.decodeGo (s.extract k s.size) = Utf8.decode s k := by
        unfold Lib.decodeGo
        rw [if_neg (by rw [Lib.tail_size]; omega), Lib.tail_decode, Nat.add_zero]
      have hv := decode_valid s k
      have hle : (Utf8.decode s k).1 ≤ 1114111 := Lib.rune_le s k
      have hrn : rn s k = if (Utf8.decode s k).1 = 65533 ∧ (Utf8.decode s k).2 = 1 then (-1, 1) else (((Utf8.decode s k).1 : Int), ((Utf8.decode s k).2 : Int)) := rfl
      by_cases hm : mayB (rn s k).1 = true
      · have HS : Hid (badAt s k = badAt s (k + wd s k)) := badAt_step s k hlt hm
        by_cases hc : (Utf8.decode s k).1 = 65533 ∧ (Utf8.decode s k).2 = 1
        · rw [hrn, if_pos hc] at hm; simp [mayB] at hm
        · rw [hrn, if_neg hc] at hm
          simp only at hm
          clear hrn
          unfold wd at *
          generalize Utf8.decode s k = d at *
          obtain ⟨c, n⟩ := d
          simp only at *
          have hcc : ((c : Int) == 65533) = false ∨ (((c : Int) == 65533) = true ∧ ((n : Int) == 1) = false) := by
            by_cases e : c = 65533
            · right; exact ⟨by simp [e], by simp; omega⟩
            · left; simp; omega
          clear hc
          rcases hcc with e1 | ⟨e1, e2⟩
          all_goals
            go_wp2_with (first | (go_at_call 163; refine (Tryz.utf8_DecodeRuneInString _ _ (HT.out.nw HN.out)).mono ?_; rw [HG]; rintro e w' ⟨rfl, k1⟩) | (go_at_call 179; refine (igoodRune _ _ hv).mono ?_; rw [hm]; rintro e w' ⟨rfl, rfl⟩))
            go_roundw
            case rel => exact ⟨k + n, by omega, by go_num, by rw [HW.out, HS.out], HN.out.trans k1⟩
            case measure => simp [intOf]; omega
      · have HS : Hid (wrong s = k) := by show wrong s = k; rw [HW.out]; exact badAt_stop s k hlt hm
        by_cases hc : (Utf8.decode s k).1 = 65533 ∧ (Utf8.decode s k).2 = 1
        · obtain ⟨c1, c2⟩ := hc
          have HG2 : Lib.decodeGo (s.extract k s.size) = (65533, 1) := by rw [HG]; exact Prod.ext c1 c2
          clear hrn HG c1 c2 hv hle hm
          go_wp2_with (go_at_call 163; refine (Tryz.utf8_DecodeRuneInString _ _ (HT.out.nw HN.out)).mono ?_; rw [HG2]; rintro e w' ⟨rfl, k1⟩)
          go_ret
          exact ⟨ret_int (by rw [HS.out]), HN.out.trans k1⟩
        · rw [hrn, if_neg hc] at hm
          simp only at hm
          clear hrn
          unfold wd at *
          generalize Utf8.decode s k = d at *
          obtain ⟨c, n⟩ := d
          simp only at *
          have hm' : mayB (c : Int) = false := by simpa using hm
          have e1 : ((c : Int) == 65533) = false := by
            have : c ≠ 65533 := by rintro rfl; simp [mayB] at hm'
            simp; omega
          clear hc hm
          go_wp2_with (first | (go_at_call 163; refine (Tryz.utf8_DecodeRuneInString _ _ (HT.out.nw HN.out)).mono ?_; rw [HG]; rintro e w' ⟨rfl, k1⟩) | (go_at_call 179; refine (igoodRune _ _ hv).mono ?_; rw [hm']; rintro e w' ⟨rfl, rfl⟩))
          go_ret
          exact ⟨ret_int (by rw [HS.out]), HN.out.trans k1⟩
    · have e : k = s.size := by omega
      have HS : Hid (wrong s = s.size) := by show wrong s = s.size; rw [HW.out, e, badAt_end]
      go_wp2
      go_ret
      exact ⟨ret_int (by rw [HS.out, e]), HN.out⟩

def runesB (s : ByteArray) : Bool := decide (wrong s = s.size)
theorem wrong_le (s : ByteArray) : wrong s ≤ s.size := by
  have h : ∀ f k, k ≤ s.size → badFrom s f k ≤ s.size := by
    intro f
    induction f with
    | zero => intro k h; exact h
    | succ f ih =>
      intro k h
      rw [badFrom]
      split
      · omega
      · rename_i hk
        have hw := wd_bd s k (by omega)
        split
        · exact ih _ (by omega)
        · omega
  exact h _ _ (Nat.zero_le _)
theorem sbad_ge (s : ByteArray) : decide (0 ≤ sbadV s) = !runesB s := by
  have := wrong_le s
  unfold sbadV runesB
  by_cases h : wrong s < s.size
  · rw [if_pos h]; simp; omega
  · rw [if_neg h]; simp; omega
theorem igood (w : World) (s : ByteArray) (hs : s.size ≤ 1048576) (ht : Tb w) : Calls Tryz.prog 126 #[.string s] w fun e w' => e = .returned (.bool (runesB s)) ∧ Nw w w' := by
  go_enter Tryz.func126, Tryz.ntmps126
  go_wp2_with (go_at_call 160; refine (iwrong _ _ hs ht).mono ?_; rintro e w' ⟨rfl, k1⟩)
  all_goals
    go_ret
    exact ⟨ret_bool (by rw [Bool.eq_iff_iff]; simp [runesB]; try omega), k1⟩
end Go.Proofs.YtnkmdmmlpidcmaaGreatDoor
namespace Go.Proofs.YtnkmdmmlpidcmaaGreatDoor
open Go.ChangeShapes Go.WideShapes Go.ChangeAt Go.RowKit
set_option linter.unusedVariables false

def AttrOk (l : List Pair) (i : Nat) : Prop := nameB (pairAt l i).1 = true ∧ runesB (pairAt l i).2 = true ∧ NoneTo l (pairAt l i).1 i
def AttrsTo (l : List Pair) (k : Nat) : Prop := ∀ i, i < k → AttrOk l i
theorem AttrsTo.step {l : List Pair} {k : Nat} (h : AttrsTo l k) (e : AttrOk l k) : AttrsTo l (k + 1) := by
  intro i hi
  by_cases c : i = k
  · subst c; exact e
  · exact h i (by omega)
def AttrsOk (l : List Pair) : Prop := l.length ≤ 12 ∧ AttrsTo l l.length
def attrB (l : List Pair) (i : Nat) : Bool := nameB (pairAt l i).1 && (runesB (pairAt l i).2 && (List.range i).all fun j => !decide ((pairAt l j).1 = (pairAt l i).1))
theorem attrB_iff (l : List Pair) (i : Nat) : attrB l i = true ↔ AttrOk l i := by
  unfold attrB AttrOk NoneTo
  rw [Bool.and_eq_true, Bool.and_eq_true, List.all_eq_true]
  simp only [List.mem_range, Bool.not_eq_true', decide_eq_false_iff_not, ne_eq]
def attrsB (l : List Pair) : Bool := decide (l.length ≤ 12) && (List.range l.length).all (attrB l)
theorem attrsB_iff (l : List Pair) : attrsB l = true ↔ AttrsOk l := by
  unfold attrsB AttrsOk AttrsTo
  rw [Bool.and_eq_true, decide_eq_true_eq, List.all_eq_true]
  simp only [List.mem_range, attrB_iff]
theorem attrsB_yes {l : List Pair} (h : AttrsOk l) : attrsB l = true := (attrsB_iff l).2 h
theorem attrsB_no {l : List Pair} (h : ¬ AttrsOk l) : attrsB l = false := by
  cases e : attrsB l with
  | false => rfl
  | true => exact absurd ((attrsB_iff l).1 e) h
def smallA (l : List Pair) : Prop := ∀ i, i < l.length → (pairAt l i).1.size ≤ 1048576 ∧ (pairAt l i).2.size ≤ 1048576
theorem pair_take (l : List Pair) (k i : Nat) (h : i < k) : pairAt (l.take k) i = pairAt l i := by
  simp [pairAt, List.getD, h]
theorem Attrs.take {w : World} {a : Option Addr} {l : List Pair} (h : Attrs w a l) (k : Nat) (hk : k ≤ l.length) : Attrs w a (l.take k) := by
  rcases h with rfl | ⟨b, off, rfl, hb, hc⟩
  · left; simp
  · refine Or.inr ⟨b, off, rfl, hb, fun i hi => ?_⟩
    have hi' : i < k := by simp at hi; omega
    rw [pair_take l k i hi']
    exact hc i (by omega)
theorem none_or (l : List Pair) (s : ByteArray) (n : Nat) (hn : n ≤ l.length) : NoneTo l s n ∨ ∃ k, k < n ∧ NoneTo l s k ∧ (pairAt l k).1 = s := by
  rcases firstAt_or (l.take n) s with h | ⟨k, h1, h2, h3⟩
  · left
    intro i hi
    have := h i (by simp; omega)
    rwa [pair_take l n i hi] at this
  · right
    have hk : k < n := by simp at h1; omega
    refine ⟨k, hk, fun i hi => ?_, by rwa [pair_take l n k hk] at h3⟩
    have := h2 i hi
    rwa [pair_take l n i (by omega)] at this
theorem place_no (w : World) (a : Option Addr) (c : Nat) (l : List Pair) (s : ByteArray) (n : Nat) (hn : n ≤ l.length) (hl : l.length ≤ 1048576) (hr : Attrs w a l) (hf : NoneTo l s n) :
    Calls Tryz.prog 127 #[.slice a n c, .string s] w fun e w' => e = .returned (.int .i64 (-1)) ∧ Nw w w' := by
  have e : (l.take n).length = n := by simp; omega
  have := attrPlace_no w a c (l.take n) s (by omega) (hr.take n hn) (fun i hi => by rw [pair_take l n i (by omega)]; exact hf i (by omega))
  rwa [e] at this
theorem place_yes (w : World) (a : Option Addr) (c : Nat) (l : List Pair) (s : ByteArray) (n k : Nat) (hn : n ≤ l.length) (hl : l.length ≤ 1048576) (hr : Attrs w a l) (hk : k < n) (h1 : NoneTo l s k) (h2 : (pairAt l k).1 = s) :
    Calls Tryz.prog 127 #[.slice a n c, .string s] w fun e w' => e = .returned (.int .i64 k) ∧ Nw w w' := by
  have e : (l.take n).length = n := by simp; omega
  have := attrPlace_yes w a c (l.take n) s k (by omega) (hr.take n hn) ⟨by omega, fun i hi => by rw [pair_take l n i (by omega)]; exact h1 i hi, by rw [pair_take l n k hk]; exact h2⟩
  rwa [e] at this

set_option maxHeartbeats 4000000 in
theorem sattrs (w : World) (a : Option Addr) (c : Nat) (l : List Pair) (hl : l.length ≤ 1048576) (hz : smallA l) (hcap : l.length ≤ c) (hr : Attrs w a l) :
    Calls Tryz.prog 88 #[.slice a l.length c] w fun e w' => e = .returned (.bool (attrsB l)) ∧ Nw w w' := by
  by_cases h12 : (l.length : Int) ≤ 12
  · have HR : Hid (Attrs w a l) := hr
    have HZ : Hid (smallA l) := hz
    clear hr hz
    go_enter Tryz.func88, Tryz.ntmps88
    go_wp2
    go_loopw [12] (fun i wr => ∃ k : Nat, k ≤ l.length ∧ i = .int .i64 k ∧ AttrsTo l k ∧ Nw w wr) (fun i _ => l.length - (intOf i).toNat)
    case atStart => exact ⟨0, Nat.zero_le _, rfl, fun i hi => absurd hi (by omega), Below.refl _ _⟩
    case round =>
      generalize hwr : wr = w1 at *
      clear hwr
      obtain ⟨k, hk, rfl, hto, hw⟩ := hrel
      have HO : Hid (AttrsTo l k) := hto
      have HW : Hid (Nw w w1) := hw
      clear hto
      by_cases hlt : k < l.length
      · rcases (HR.out.nw hw) with h | ⟨b, o, rfl, hb, hc⟩
        · rw [h] at hlt; simp at hlt
        obtain ⟨q0, q1⟩ := hc k hlt
        have HC : Hid (∀ i, i < l.length → w1.cell? ⟨b, o + i * 2, none⟩ = some (.string (pairAt l i).1) ∧ w1.cell? ⟨b, o + i * 2 + 1, none⟩ = some (.string (pairAt l i).2)) := hc
        obtain ⟨z1, z2⟩ := HZ.out k hlt
        clear hc hw
        by_cases hn : nameB (pairAt l k).1 = true
        · by_cases hg : runesB (pairAt l k).2 = true
          · have hsb : decide (0 ≤ sbadV (pairAt l k).2) = false := by rw [sbad_ge, hg]; rfl
            rcases none_or l (pairAt l k).1 k (by omega) with hno | ⟨j, hj, hj1, hj2⟩
            · have HK : Hid (AttrOk l k) := ⟨hn, hg, hno⟩
              have HNo : Hid (NoneTo l (pairAt l k).1 k) := hno
              clear hno hg
              generalize hx : (pairAt l k).1 = x at *
              generalize (pairAt l k).2 = y at *
              clear hx
              go_wp2_with (first | (go_at_call 89; refine (sname _ x z1).mono ?_; rw [hn]; rintro e w' ⟨rfl, rfl⟩) | (go_at_call 91; refine (sbad _ y z2).mono ?_; rintro e w' ⟨rfl, rfl⟩))
              have B1 : ∀ w2, Nw (w1.alloc (.cells #[.string x, .string y] 133)) w2 → w2.cell? ⟨w1.heap.size, 0, none⟩ = some (.string x) := fun w2 k2 => ((bcell k2).1 _ _ (by simp)).trans (by simp)
              have N1 : Nw w1 (w1.alloc (.cells #[.string x, .string y] 133)) := (Below.refl _ _).alloc (Nat.le_refl _) _
              have HB1 : Hid _ := B1
              have HN1 : Hid (Nw w1 (w1.alloc (.cells #[.string x, .string y] 133))) := N1
              clear B1 N1
              go_loopw [31] (fun i w2 => ∃ m : Nat, m ≤ k ∧ i = .int .i64 m ∧ Nw (w1.alloc (.cells #[.string x, .string y] 133)) w2) (fun i _ => k - (intOf i).toNat)
              case atStart => exact ⟨0, Nat.zero_le _, rfl, Below.refl _ _⟩
              case round =>
                obtain ⟨m, hm, rfl, hw2⟩ := hrel
                have HW2 : Hid (Nw (w1.alloc (.cells #[.string x, .string y] 133)) wr) := hw2
                have c1 := HB1.out _ hw2
                have hlt2 : w1.heap.size < wr.heap.size := by have := Below.size hw2; simp at this; omega
                have NN : Nw w1 wr := Nw.trans HN1.out hw2
                by_cases hmk : m < k
                · have e0 := ((bcell NN).1 _ _ hb).trans (HC.out m (by omega)).1
                  have e1 := ((bcell NN).1 _ _ hb).trans (HC.out m (by omega)).2
                  have hq : ((pairAt l m).1.toList == x.toList) = false := (Lib.bytes_beq_false_iff _ _).2 (HNo.out m hmk)
                  clear hw2 NN
                  generalize (pairAt l m).1 = xm at *
                  generalize (pairAt l m).2 = ym at *
                  go_wp2
                  go_roundw
                  case rel => exact ⟨m + 1, by omega, by go_num, HW2.out.trans ((Below.refl _ _).alloc (Nat.le_refl _) _)⟩
                  case measure => simp [intOf]; omega
                · have HE : Hid (Nw w wr) := HW.out.trans NN
                  clear hw2 NN
                  go_wp2
                  go_roundw
                  case rel => exact ⟨k + 1, by omega, by go_num, HO.out.step HK.out, HE.out⟩
                  case measure => simp [intOf]; omega
            · have HN : Hid (attrsB l = false) := attrsB_no fun h => (h.2 k hlt).2.2 j hj hj2
              have HJ1 : Hid (NoneTo l (pairAt l k).1 j) := hj1
              have HJ2 : Hid ((pairAt l j).1 = (pairAt l k).1) := hj2
              clear hg hj1 hj2
              generalize hx : (pairAt l k).1 = x at *
              generalize (pairAt l k).2 = y at *
              clear hx
              go_wp2_with (first | (go_at_call 89; refine (sname _ x z1).mono ?_; rw [hn]; rintro e w' ⟨rfl, rfl⟩) | (go_at_call 91; refine (sbad _ y z2).mono ?_; rintro e w' ⟨rfl, rfl⟩))
              have B1 : ∀ w2, Nw (w1.alloc (.cells #[.string x, .string y] 133)) w2 → w2.cell? ⟨w1.heap.size, 0, none⟩ = some (.string x) := fun w2 k2 => ((bcell k2).1 _ _ (by simp)).trans (by simp)
              have N1 : Nw w1 (w1.alloc (.cells #[.string x, .string y] 133)) := (Below.refl _ _).alloc (Nat.le_refl _) _
              have HB1 : Hid _ := B1
              have HN1 : Hid (Nw w1 (w1.alloc (.cells #[.string x, .string y] 133))) := N1
              clear B1 N1
              go_loopw [31] (fun i w2 => ∃ m : Nat, m ≤ j ∧ i = .int .i64 m ∧ Nw (w1.alloc (.cells #[.string x, .string y] 133)) w2) (fun i _ => k - (intOf i).toNat)
              case atStart => exact ⟨0, Nat.zero_le _, rfl, Below.refl _ _⟩
              case round =>
                obtain ⟨m, hm, rfl, hw2⟩ := hrel
                have HW2 : Hid (Nw (w1.alloc (.cells #[.string x, .string y] 133)) wr) := hw2
                have c1 := HB1.out _ hw2
                have hlt2 : w1.heap.size < wr.heap.size := by have := Below.size hw2; simp at this; omega
                have NN : Nw w1 wr := Nw.trans HN1.out hw2
                have e0 := ((bcell NN).1 _ _ hb).trans (HC.out m (by omega)).1
                have e1 := ((bcell NN).1 _ _ hb).trans (HC.out m (by omega)).2
                by_cases hmk : m = j
                · have hq : (x.toList == x.toList) = true := by simp
                  rw [hmk, HJ2.out] at e0
                  rw [hmk] at e1
                  subst hmk
                  have HE : Hid (Nw w wr) := HW.out.trans NN
                  clear hw2 NN
                  generalize (pairAt l m).2 = ym at *
                  go_wp2
                  go_ret
                  exact ⟨ret_bool HN.out.symm, HE.out.trans ((Below.refl _ _).alloc (Nat.le_refl _) _)⟩
                · have hq : ((pairAt l m).1.toList == x.toList) = false := (Lib.bytes_beq_false_iff _ _).2 (HJ1.out m (by omega))
                  clear hw2 NN
                  generalize (pairAt l m).1 = xm at *
                  generalize (pairAt l m).2 = ym at *
                  go_wp2
                  go_roundw
                  case rel => exact ⟨m + 1, by omega, by go_num, HW2.out.trans ((Below.refl _ _).alloc (Nat.le_refl _) _)⟩
                  case measure => simp [intOf]; omega
          · have hsb : decide (0 ≤ sbadV (pairAt l k).2) = true := by rw [sbad_ge]; simpa using hg
            have HN : Hid (attrsB l = false) := attrsB_no fun h => hg (h.2 k hlt).2.1
            clear hg
            generalize hx : (pairAt l k).1 = x at *
            generalize (pairAt l k).2 = y at *
            clear hx
            go_wp2_with (first | (go_at_call 89; refine (sname _ x z1).mono ?_; rw [hn]; rintro e w' ⟨rfl, rfl⟩) | (go_at_call 91; refine (sbad _ y z2).mono ?_; rintro e w' ⟨rfl, rfl⟩))
            go_ret
            exact ⟨ret_bool HN.out.symm, HW.out.trans ((Below.refl _ _).alloc (Nat.le_refl _) _)⟩
        · have HN : Hid (attrsB l = false) := attrsB_no fun h => hn (h.2 k hlt).1
          have hn' : nameB (pairAt l k).1 = false := by simpa using hn
          clear hn
          generalize hx : (pairAt l k).1 = x at *
          generalize (pairAt l k).2 = y at *
          clear hx
          go_wp2_with (go_at_call 89; refine (sname _ x z1).mono ?_; rw [hn']; rintro e w' ⟨rfl, rfl⟩)
          go_ret
          exact ⟨ret_bool HN.out.symm, HW.out.trans ((Below.refl _ _).alloc (Nat.le_refl _) _)⟩
      · have e : k = l.length := by omega
        have HB : Hid (attrsB l = true) := attrsB_yes ⟨by omega, by have := HO.out; rwa [e] at this⟩
        clear hw
        go_wp2
        go_ret
        exact ⟨ret_bool HB.out.symm, HW.out⟩
  · have HN : Hid (attrsB l = false) := attrsB_no fun h => by have := h.1; omega
    clear hr hz
    go_enter Tryz.func88, Tryz.ntmps88
    go_wp2
    go_ret
    exact ⟨ret_bool HN.out.symm, Below.refl _ _⟩
end Go.Proofs.YtnkmdmmlpidcmaaGreatDoor
namespace Go.Proofs.YtnkmdmmlpidcmaaGreatDoor
open Go.ChangeShapes Go.WideShapes Go.ChangeAt Go.RowKit
set_option linter.unusedVariables false

def elemB (n : ND) : Bool := nameB n.name && (decide (n.text.size = 0) && attrsB n.attrs)
def textB (n : ND) : Bool := decide (n.name.size = 0) && (decide (n.attrs.length = 0) && (!decide (n.text.size = 0) && runesB n.text))
structure smallN (n : ND) : Prop where
  name : n.name.size ≤ 1048576
  text : n.text.size ≤ 1048576
  len : n.attrs.length ≤ 1048576
  attrs : smallA n.attrs
  up : -9223372036854775808 ≤ n.up ∧ n.up ≤ 9223372036854775807

theorem iisElem (w : World) (name : ByteArray) (up : Int) (v : Value) (text : ByteArray) :
    Calls Tryz.prog 128 #[.agg #[.string name, .int .i64 up, v, .string text]] w fun e w' => e = .returned (.bool (!decide (name.size = 0))) ∧ Nw w w' := by
  by_cases h : name.size = 0
  · obtain rfl := empty_of h
    go_enter Tryz.func128, Tryz.ntmps128
    go_wp2
    go_ret
    exact ⟨rfl, (Below.refl _ _).alloc (Nat.le_refl _) _⟩
  · have hn1 := ne_nil (s := name) (by omega)
    have hn2 := ne_emp (s := name) (by omega)
    have hd : decide (name.size = 0) = false := by simp [h]
    go_enter Tryz.func128, Tryz.ntmps128
    go_wp2
    all_goals
      go_ret
      exact ⟨ret_bool (by rw [hd]; first | rfl | simp [hn1, hn2]), (Below.refl _ _).alloc (Nat.le_refl _) _⟩

set_option maxHeartbeats 4000000 in
theorem igoodElem (w : World) (name : ByteArray) (up : Int) (l : List Pair) (text : ByteArray) (a : Option Addr) (c : Nat) (ht : Tb w) (hz : smallN ⟨name, up, l, text⟩) (hcap : l.length ≤ c) (hr : Attrs w a l) :
    Calls Tryz.prog 94 #[.agg #[.string name, .int .i64 up, .slice a l.length c, .string text]] w fun e w' => e = .returned (.bool (elemB ⟨name, up, l, text⟩)) ∧ Nw w w' := by
  obtain ⟨z1, z2, z3, z4, z5⟩ := hz
  simp only at z1 z2 z3 z4 z5
  clear z5
  by_cases hn : nameB name = true
  · by_cases h : text.size = 0
    · obtain rfl := empty_of h
      by_cases h12 : (l.length : Int) ≤ 12
      · have HT : Hid (Tb w) := ht
        have HR : Hid (Attrs w a l) := hr
        have HZ : Hid (smallA l) := z4
        clear ht hr z4 h
        go_enter Tryz.func94, Tryz.ntmps94
        go_wp2_with (go_at_call 125; refine (iname _ name z1).mono ?_; rw [hn]; rintro e w' ⟨rfl, rfl⟩)
        go_loopw [23] (fun i wr => ∃ k : Nat, k ≤ l.length ∧ i = .int .i64 k ∧ AttrsTo l k ∧ Nw w wr ∧ w.heap.size < wr.heap.size ∧ wr.cell? ⟨w.heap.size, 2, none⟩ = some (.slice a l.length c)) (fun i _ => l.length - (intOf i).toNat)
        case atStart => exact ⟨0, Nat.zero_le _, rfl, fun i hi => absurd hi (by omega), (Below.refl _ _).alloc (Nat.le_refl _) _, by simp, by simp⟩
        case round =>
          obtain ⟨k, hk, rfl, hto, hw, hbx, cb⟩ := hrel
          have HO : Hid (AttrsTo l k) := hto
          have HW : Hid (Nw w wr) := hw
          clear hto
          by_cases hlt : k < l.length
          · have HRR := (HR.out.nw hw)
            rcases HRR with h | ⟨b, o, rfl, hb, hc⟩
            · rw [h] at hlt; simp at hlt
            obtain ⟨q0, q1⟩ := hc k hlt
            obtain ⟨y1, y2⟩ := HZ.out k hlt
            have hkc : k ≤ c := by omega
            clear hc hw
            by_cases hnk : nameB (pairAt l k).1 = true
            · by_cases hgk : runesB (pairAt l k).2 = true
              · rcases none_or l (pairAt l k).1 k (by omega) with hno | ⟨j, hj, hj1, hj2⟩
                · have HK : Hid (AttrOk l k) := ⟨hnk, hgk, hno⟩
                  have HNo : Hid (NoneTo l (pairAt l k).1 k) := hno
                  clear hno
                  generalize hx : (pairAt l k).1 = x at *
                  generalize (pairAt l k).2 = y at *
                  clear hx
                  have M1 : Hid (Nw wr (wr.alloc (.cells #[.string x, .string y] 133))) := (Below.refl _ _).alloc (Nat.le_refl _) _
                  have D1 : Hid (Tb (wr.alloc (.cells #[.string x, .string y] 133)).drew) := HT.out.nw ((HW.out.trans M1.out).trans (show Nw _ (wr.alloc (.cells #[.string x, .string y] 133)).drew from (Below.refl _ _).drew))
                  go_wp2_with fail
                  go_region_with (first
                    | (go_at_call 125; refine (iname _ x y1).mono ?_; rw [hnk]; rintro e w' ⟨rfl, rfl⟩)
                    | (go_at_call 126; refine (igood _ y y2 D1.out).mono ?_; rw [hgk]; rintro e w2 ⟨rfl, k2⟩; obtain ⟨hc2, hf2⟩ := bcell k2; have M2 : Hid (Nw wr w2) := M1.out.trans k2.drw)
                    | (go_at_call 127; refine (place_no _ _ c l x k hk z3 (HR.out.nw (HW.out.trans M2.out)) HNo.out).mono ?_; rintro e w3 ⟨rfl, k3⟩; have M3 : Hid (Nw wr w3) := M2.out.trans k3))
                  all_goals
                    go_wp2
                    go_roundw
                    case rel => exact ⟨k + 1, by omega, by go_num, HO.out.step HK.out, HW.out.trans M3.out, Nat.lt_of_lt_of_le hbx (Below.size M3.out), ((bcell M3.out).1 _ _ hbx).trans cb⟩
                    case measure => simp [intOf]; omega
                · have HF : Hid (elemB ⟨name, up, l, ⟨#[]⟩⟩ = false) := by
                    show elemB _ = false
                    unfold elemB
                    rw [attrsB_no fun h => (h.2 k hlt).2.2 j hj hj2]; simp
                  have HJ1 : Hid (NoneTo l (pairAt l k).1 j) := hj1
                  have HJ2 : Hid ((pairAt l j).1 = (pairAt l k).1) := hj2
                  have hj0 : decide ((0 : Int) ≤ (j : Int)) = true := by simp
                  clear hj1 hj2
                  generalize hx : (pairAt l k).1 = x at *
                  generalize (pairAt l k).2 = y at *
                  clear hx
                  have M1 : Hid (Nw wr (wr.alloc (.cells #[.string x, .string y] 133))) := (Below.refl _ _).alloc (Nat.le_refl _) _
                  have D1 : Hid (Tb (wr.alloc (.cells #[.string x, .string y] 133)).drew) := HT.out.nw ((HW.out.trans M1.out).trans (show Nw _ (wr.alloc (.cells #[.string x, .string y] 133)).drew from (Below.refl _ _).drew))
                  go_wp2_with fail
                  go_region_with (first
                    | (go_at_call 125; refine (iname _ x y1).mono ?_; rw [hnk]; rintro e w' ⟨rfl, rfl⟩)
                    | (go_at_call 126; refine (igood _ y y2 D1.out).mono ?_; rw [hgk]; rintro e w2 ⟨rfl, k2⟩; obtain ⟨hc2, hf2⟩ := bcell k2; have M2 : Hid (Nw wr w2) := M1.out.trans k2.drw)
                    | (go_at_call 127; refine (place_yes _ _ c l x k j hk z3 (HR.out.nw (HW.out.trans M2.out)) hj HJ1.out HJ2.out).mono ?_; rintro e w3 ⟨rfl, k3⟩; have M3 : Hid (Nw wr w3) := M2.out.trans k3))
                  all_goals
                    go_wp2
                    go_ret
                    exact ⟨ret_bool HF.out.symm, HW.out.trans M3.out⟩
              · have HF : Hid (elemB ⟨name, up, l, ⟨#[]⟩⟩ = false) := by
                  show elemB _ = false
                  unfold elemB
                  rw [attrsB_no fun h => hgk (h.2 k hlt).2.1]; simp
                have hgk' : runesB (pairAt l k).2 = false := by simpa using hgk
                clear hgk
                generalize hx : (pairAt l k).1 = x at *
                generalize (pairAt l k).2 = y at *
                clear hx
                have M1 : Hid (Nw wr (wr.alloc (.cells #[.string x, .string y] 133))) := (Below.refl _ _).alloc (Nat.le_refl _) _
                have D1 : Hid (Tb (wr.alloc (.cells #[.string x, .string y] 133)).drew) := HT.out.nw ((HW.out.trans M1.out).trans (show Nw _ (wr.alloc (.cells #[.string x, .string y] 133)).drew from (Below.refl _ _).drew))
                go_wp2_with fail
                first
                | go_region_with (first
                  | (go_at_call 125; refine (iname _ x y1).mono ?_; rw [hnk]; rintro e w' ⟨rfl, rfl⟩)
                  | (go_at_call 126; refine (igood _ y y2 D1.out).mono ?_; rw [hgk']; rintro e w2 ⟨rfl, k2⟩; obtain ⟨hc2, hf2⟩ := bcell k2; have M2 : Hid (Nw wr w2) := M1.out.trans k2.drw))
                | fail
                all_goals
                  go_wp2
                  go_ret
                  exact ⟨ret_bool HF.out.symm, HW.out.trans M2.out⟩
            · have HF : Hid (elemB ⟨name, up, l, ⟨#[]⟩⟩ = false) := by
                show elemB _ = false
                unfold elemB
                rw [attrsB_no fun h => hnk (h.2 k hlt).1]; simp
              have hnk' : nameB (pairAt l k).1 = false := by simpa using hnk
              clear hnk
              generalize hx : (pairAt l k).1 = x at *
              generalize (pairAt l k).2 = y at *
              clear hx
              go_wp2_with fail
              have HQ : ∀ W, Hid (Calls Tryz.prog 125 #[.string x] W fun e w' => e = .returned (.bool false) ∧ w' = W) := fun W => by have := iname W x y1; rw [hnk'] at this; exact this
              go_quiet ((go_at_call 125; exact Calls.quiet_of_same (HQ _).out))
              go_wp2
              go_ret
              exact ⟨ret_bool HF.out.symm, HW.out.trans (((Kp.refl wr).alloc _ _).drewN _).nw⟩
          · have e : k = l.length := by omega
            have HB : Hid (elemB ⟨name, up, l, ⟨#[]⟩⟩ = true) := by
              show elemB _ = true
              unfold elemB
              simp only
              rw [hn, attrsB_yes ⟨by omega, by have := HO.out; rwa [e] at this⟩]; rfl
            clear hw
            go_wp2
            go_ret
            exact ⟨ret_bool HB.out.symm, HW.out⟩
      · have HF : Hid (elemB ⟨name, up, l, ⟨#[]⟩⟩ = false) := by
          show elemB _ = false
          unfold elemB
          rw [attrsB_no fun h => by have := h.1; simp only at this; omega]; simp
        clear ht hr z4 h
        go_enter Tryz.func94, Tryz.ntmps94
        go_wp2_with (go_at_call 125; refine (iname _ name z1).mono ?_; rw [hn]; rintro e w' ⟨rfl, rfl⟩)
        go_ret
        exact ⟨ret_bool HF.out.symm, (Below.refl _ _).alloc (Nat.le_refl _) _⟩
    · have hn1 := ne_nil (s := text) (by omega)
      have hn2 := ne_emp (s := text) (by omega)
      have HF : Hid (elemB ⟨name, up, l, text⟩ = false) := by
        show elemB _ = false
        unfold elemB
        simp [h]
      clear ht hr z4 h
      go_enter Tryz.func94, Tryz.ntmps94
      go_wp2_with (go_at_call 125; refine (iname _ name z1).mono ?_; rw [hn]; rintro e w' ⟨rfl, rfl⟩)
      go_ret
      exact ⟨ret_bool HF.out.symm, (Below.refl _ _).alloc (Nat.le_refl _) _⟩
  · have hn' : nameB name = false := by simpa using hn
    have HF : Hid (elemB ⟨name, up, l, text⟩ = false) := by
      show elemB _ = false
      unfold elemB
      simp [hn']
    clear ht hr z4 hn
    go_enter Tryz.func94, Tryz.ntmps94
    go_wp2_with (go_at_call 125; refine (iname _ name z1).mono ?_; rw [hn']; rintro e w' ⟨rfl, rfl⟩)
    go_ret
    exact ⟨ret_bool HF.out.symm, (Below.refl _ _).alloc (Nat.le_refl _) _⟩

set_option maxHeartbeats 4000000 in
theorem igoodText (w : World) (name : ByteArray) (up : Int) (l : List Pair) (text : ByteArray) (a : Option Addr) (c : Nat) (ht : Tb w) (hz : smallN ⟨name, up, l, text⟩) :
    Calls Tryz.prog 95 #[.agg #[.string name, .int .i64 up, .slice a l.length c, .string text]] w fun e w' => e = .returned (.bool (textB ⟨name, up, l, text⟩)) ∧ Nw w w' := by
  obtain ⟨z1, z2, z3, z4, z5⟩ := hz
  simp only at z1 z2 z3 z4 z5
  clear z4 z5
  have HT : ∀ w2, Nw w w2 → Tb w2 := fun w2 k => ht.nw k
  have HT2 : Hid _ := HT
  clear HT ht
  by_cases h : name.size = 0
  · have hd : decide (name.size = 0) = true := by simp [h]
    by_cases h2 : l.length = 0
    · have e0 : l = [] := List.eq_nil_of_length_eq_zero h2
      subst e0
      by_cases h3 : text.size = 0
      · have HF : Hid (textB ⟨name, up, [], text⟩ = false) := by show textB _ = false; unfold textB; simp [h3]
        obtain rfl := empty_of h3
        clear h h2
        go_enter Tryz.func95, Tryz.ntmps95
        go_wp2_with (go_at_call 128; refine (iisElem _ _ _ _ _).mono ?_; rw [hd]; rintro e w1 ⟨rfl, k1⟩; obtain ⟨hc, hf⟩ := bcell k1)
        go_ret
        exact ⟨ret_bool HF.out.symm, Below.trans ((Below.refl _ _).alloc (Nat.le_refl _) _) (Below.mono k1 (by simp))⟩
      · have HF : Hid (textB ⟨name, up, [], text⟩ = runesB text) := by show textB _ = _; unfold textB; simp [h, h3]
        have hn1 := ne_nil (s := text) (by omega)
        have hn2 := ne_emp (s := text) (by omega)
        clear h h2 h3
        go_enter Tryz.func95, Tryz.ntmps95
        go_wp2_with (first | (go_at_call 128; refine (iisElem _ _ _ _ _).mono ?_; rw [hd]; rintro e w1 ⟨rfl, k1⟩; obtain ⟨hc, hf⟩ := bcell k1; have N1 : Hid (Nw w w1) := Below.trans ((Below.refl _ _).alloc (Nat.le_refl _) _) (Below.mono k1 (by simp))) | (go_at_call 126; refine (igood _ _ z2 (HT2.out _ N1.out)).mono ?_; rintro e w2 ⟨rfl, k2⟩))
        go_ret
        exact ⟨ret_bool HF.out.symm, N1.out.trans k2⟩
    · have HF : Hid (textB ⟨name, up, l, text⟩ = false) := by show textB _ = false; unfold textB; simp [h2]
      have hne : ((l.length : Int) == 0) = false := beq_eq_false_iff_ne.2 (by omega)
      clear h
      go_enter Tryz.func95, Tryz.ntmps95
      go_wp2_with (go_at_call 128; refine (iisElem _ _ _ _ _).mono ?_; rw [hd]; rintro e w1 ⟨rfl, k1⟩; obtain ⟨hc, hf⟩ := bcell k1)
      go_ret
      exact ⟨ret_bool HF.out.symm, Below.trans ((Below.refl _ _).alloc (Nat.le_refl _) _) (Below.mono k1 (by simp))⟩
  · have hd : decide (name.size = 0) = false := by simp [h]
    have HF : Hid (textB ⟨name, up, l, text⟩ = false) := by show textB _ = false; unfold textB; simp [h]
    clear h
    go_enter Tryz.func95, Tryz.ntmps95
    go_wp2_with (go_at_call 128; refine (iisElem _ _ _ _ _).mono ?_; rw [hd]; rintro e w1 ⟨rfl, k1⟩; obtain ⟨hc, hf⟩ := bcell k1)
    go_ret
    exact ⟨ret_bool HF.out.symm, Below.trans ((Below.refl _ _).alloc (Nat.le_refl _) _) (Below.mono k1 (by simp))⟩
end Go.Proofs.YtnkmdmmlpidcmaaGreatDoor
namespace Go.Proofs.YtnkmdmmlpidcmaaGreatDoor
open Go.ChangeShapes Go.WideShapes Go.ChangeAt Go.RowKit
set_option linter.unusedVariables false

def named (l : List ND) (i : Nat) : Bool := !decide ((nodeAt l i).name.size = 0)
/-- The node j + 1 may stand behind the node j. -/
def placeB (l : List ND) (j : Nat) : Bool :=
  meetsN l (upAt l (j + 1)) (j : Int) && (named l (upAt l (j + 1)).toNat && (if named l (j + 1) = true then decide (deepN l (upAt l (j + 1)) < 10) else (named l j || !decide (upAt l j = upAt l (j + 1)))))
/-- The cells of a node. -/
def NodeCells (w : World) (b o : Nat) (n : ND) : Prop :=
  w.cell? ⟨b, o, none⟩ = some (.string n.name) ∧ w.cell? ⟨b, o + 1, none⟩ = some (.int .i64 n.up) ∧ (∃ aa c, w.cell? ⟨b, o + 2, none⟩ = some (.slice aa n.attrs.length c) ∧ n.attrs.length ≤ c ∧ Attrs w aa n.attrs) ∧ w.cell? ⟨b, o + 3, none⟩ = some (.string n.text)

set_option maxHeartbeats 4000000 in
theorem iplace (w : World) (a : Option Addr) (c : Nat) (l : List ND) (j : Nat) (hl : l.length ≤ 1048576) (hr : Nodes w a l) (hu : Ups l (j + 1)) (hj : j + 1 < l.length) :
    Calls Tryz.prog 96 #[.slice a l.length c, .int .i64 ((j : Int) + 1)] w fun e w' => e = .returned (.bool (placeB l j)) ∧ Nw w w' := by
  have HR : Hid (Nodes w a l) := hr
  have HU : Hid (Ups l (j + 1)) := hu
  rcases hr with h | ⟨b, o, rfl, hb, hc⟩
  · rw [h] at hj; simp at hj
  have hle := meetsN_le l (upAt l (j + 1)) (j + 1) hu (by omega) (j + 1) (j : Int) (by omega) (by omega)
  obtain ⟨k0, k1, ⟨ka, kc, k2, kcap, k4⟩, k3⟩ := hc (j + 1) hj
  obtain ⟨j0, j1, ⟨ja, jc, j2, jcap, j4⟩, j3⟩ := hc j (by omega)
  have i1 : decide ((j : Int) + 1 < (l.length : Int)) = true := by simp; omega
  have i2 : (0 : Int) ≤ (j : Int) := by omega
  have i3 : (j : Int) < (l.length : Int) := by omega
  have hw1 : IntKind.i64.wrap ((j : Int) + 1 - 1) = (j : Int) := by rw [show (j : Int) + 1 - 1 = j by omega]; exact IntWalk.i64_in _ ⟨by omega, by omega⟩
  clear hu
  by_cases hm : meetsN l (upAt l (j + 1)) (j : Int) = true
  · obtain ⟨u0, u1⟩ := hle hm
    obtain ⟨u, hu2⟩ := Int.eq_ofNat_of_zero_le u0
    have hul : u < l.length := by omega
    have huj : u < j + 1 := by omega
    have v1 : (0 : Int) ≤ (u : Int) := by omega
    have v2 : (u : Int) < (l.length : Int) := by omega
    obtain ⟨x0, x1, ⟨xa, xc, x2, xcap, x4⟩, x3⟩ := hc u hul
    have HC : Hid (Calls Tryz.prog 129 #[.slice (some ⟨b, o, none⟩) l.length c, .int .i64 (j : Int), .int .i64 (u : Int)] w fun e w' => e = .returned (.bool true) ∧ w' = w) := by
      have := iaround w (some ⟨b, o, none⟩) c l (j + 1) (j : Int) (upAt l (j + 1)) hl HR.out HU.out (by omega) (by omega) (by omega)
      rw [hm, hu2] at this
      exact this
    have hku : (nodeAt l (j + 1)).up = (u : Int) := hu2
    rw [hku] at k1
    have hP : placeB l j = (named l u && (if named l (j + 1) = true then decide (deepN l (u : Int) < 10) else (named l j || !decide (upAt l j = (u : Int))))) := by
      unfold placeB
      rw [hm, hu2]; simp
    have HP : Hid _ := hP
    have hlu : upAt l j = (nodeAt l j).up := rfl
    clear hm hle hc j4 k4 x4 hP hku hu2 u0 u1
    by_cases nu : named l u = true
    · have nu' : (!decide ((nodeAt l u).name.size = 0)) = true := nu
      by_cases nk : named l (j + 1) = true
      · have nk' : (!decide ((nodeAt l (j + 1)).name.size = 0)) = true := nk
        have HF : Hid (placeB l j = decide ((deepN l (u : Int) : Int) < 10)) := by
          show placeB l j = _
          rw [HP.out, nu, if_pos nk, Bool.true_and]
          rw [Bool.eq_iff_iff]; simp; omega
        clear nk nu HP
        go_enter Tryz.func96, Tryz.ntmps96
        go_wp2_with (first
          | (go_at_call 129; refine (HC.out).mono ?_; rintro e w' ⟨rfl, rfl⟩)
          | (go_at_call_of 128 (Value.agg #[.string (nodeAt l u).name, .int .i64 (nodeAt l u).up, .slice xa (nodeAt l u).attrs.length xc, .string (nodeAt l u).text]); refine (iisElem _ _ _ _ _).mono ?_; rw [nu']; rintro e w1 ⟨rfl, n1⟩; obtain ⟨hc1, hf1⟩ := bcell n1)
          | (go_at_call 128; refine (iisElem _ _ _ _ _).mono ?_; rw [nk']; rintro e w2 ⟨rfl, n2⟩; obtain ⟨hc2, hf2⟩ := bcell n2)
          | (go_at_call 130; refine (ideep _ _ c l (j + 1) (u : Int) hl ((HR.out.nw n1).nw n2) HU.out (by omega) (by omega) (by omega)).mono ?_; rintro e w3 ⟨rfl, rfl⟩))
        all_goals
          go_ret
          exact ⟨ret_bool HF.out.symm, n1.trans n2⟩
      · have nk' : (!decide ((nodeAt l (j + 1)).name.size = 0)) = false := (Bool.not_eq_true _).mp nk
        by_cases nj : named l j = true
        · have nj' : (!decide ((nodeAt l j).name.size = 0)) = true := nj
          have HF : Hid (placeB l j = true) := by show placeB l j = true; rw [HP.out, nu, if_neg nk, nj]; rfl
          clear nk nu HP nj
          go_enter Tryz.func96, Tryz.ntmps96
          go_wp2_with fail
          refine Calls.mono HC.out ?_
          rintro e w' ⟨rfl, rfl⟩
          go_wp2_with fail
          refine Calls.mono (iisElem _ _ _ _ _) ?_
          rw [nu']
          rintro e w1 ⟨rfl, n1⟩
          obtain ⟨hc1, hf1⟩ := bcell n1
          go_wp2_with fail
          refine Calls.mono (iisElem _ _ _ _ _) ?_
          rw [nk']
          rintro e w2 ⟨rfl, n2⟩
          obtain ⟨hc2, hf2⟩ := bcell n2
          have hb1 : b < w1.heap.size := Nat.lt_of_lt_of_le hb (Below.size n1)
          go_wp2_with fail
          refine Calls.mono (iisElem _ _ _ _ _) ?_
          rw [nj']
          rintro e w3 ⟨rfl, n3⟩
          go_wp2
          go_ret
          exact ⟨ret_bool HF.out.symm, (n1.trans n2).trans n3⟩
        · have nj' : (!decide ((nodeAt l j).name.size = 0)) = false := (Bool.not_eq_true _).mp nj
          have HF : Hid (placeB l j = ((nodeAt l j).up != (u : Int))) := by
            show placeB l j = _
            rw [HP.out, nu, if_neg nk]
            have : named l j = false := by simpa using nj
            rw [this, hlu, Bool.eq_iff_iff]; simp
          clear nk nu HP nj
          go_enter Tryz.func96, Tryz.ntmps96
          go_wp2_with fail
          refine Calls.mono HC.out ?_
          rintro e w' ⟨rfl, rfl⟩
          go_wp2_with fail
          refine Calls.mono (iisElem _ _ _ _ _) ?_
          rw [nu']
          rintro e w1 ⟨rfl, n1⟩
          obtain ⟨hc1, hf1⟩ := bcell n1
          go_wp2_with fail
          refine Calls.mono (iisElem _ _ _ _ _) ?_
          rw [nk']
          rintro e w2 ⟨rfl, n2⟩
          obtain ⟨hc2, hf2⟩ := bcell n2
          have hb1 : b < w1.heap.size := Nat.lt_of_lt_of_le hb (Below.size n1)
          go_wp2_with fail
          refine Calls.mono (iisElem _ _ _ _ _) ?_
          rw [nj']
          rintro e w3 ⟨rfl, n3⟩
          obtain ⟨hc3, hf3⟩ := bcell n3
          have hb2 : b < w2.heap.size := Nat.lt_of_lt_of_le hb1 (Below.size n2)
          go_wp2
          all_goals
            go_ret
            exact ⟨ret_bool (by rw [HF.out]; try simp_all), (n1.trans n2).trans n3⟩
    · have nu' : (!decide ((nodeAt l u).name.size = 0)) = false := (Bool.not_eq_true _).mp nu
      have HF : Hid (placeB l j = false) := by
        show placeB l j = false
        have : named l u = false := by simpa using nu
        rw [HP.out, this]; rfl
      clear nu HP
      go_enter Tryz.func96, Tryz.ntmps96
      go_wp2_with fail
      refine Calls.mono HC.out ?_
      rintro e w' ⟨rfl, rfl⟩
      go_wp2_with fail
      refine Calls.mono (iisElem _ _ _ _ _) ?_
      rw [nu']
      rintro e w1 ⟨rfl, n1⟩
      go_wp2
      go_ret
      exact ⟨ret_bool HF.out.symm, n1⟩
  · have hm' : meetsN l (upAt l (j + 1)) (j : Int) = false := by simpa using hm
    have HF : Hid (placeB l j = false) := by show placeB l j = false; unfold placeB; rw [hm']; rfl
    have HC : Hid (Calls Tryz.prog 129 #[.slice (some ⟨b, o, none⟩) l.length c, .int .i64 (j : Int), .int .i64 (nodeAt l (j + 1)).up] w fun e w' => e = .returned (.bool false) ∧ w' = w) := by
      have := iaround w (some ⟨b, o, none⟩) c l (j + 1) (j : Int) (upAt l (j + 1)) hl HR.out HU.out (by omega) (by omega) (by omega)
      rw [hm'] at this
      exact this
    clear hm hm' hle hc j4 k4
    generalize (nodeAt l (j + 1)).up = U at *
    go_enter Tryz.func96, Tryz.ntmps96
    go_wp2_with (go_at_call 129; refine (HC.out).mono ?_; rintro e w' ⟨rfl, rfl⟩)
    go_ret
    exact ⟨ret_bool HF.out.symm, Below.refl _ _⟩
end Go.Proofs.YtnkmdmmlpidcmaaGreatDoor
