/-
  Attributes that are good, elements and texts: the program's looks and the specification's; each theorem names its conditions.
-/
import Derived.Test.YtgjnemmkpbkfhaaDoorMkBad
import Derived.Test.YtgjnemmkpbkfhaaDoorMkP
namespace Go.Proofs.YtgjnemmkpbkfhaaDoor
open Go.ChangeShapes Go.WideShapes Go.ChangeAt Go.RowKit
set_option linter.unusedVariables false

def AttrOk (l : List Pair) (i : Nat) : Prop := nameB (pairAt l i).1 = true ∧ runesB (pairAt l i).2 = true ∧ NoneTo l (pairAt l i).1 i
def AttrsTo (l : List Pair) (k : Nat) : Prop := ∀ i, i < k → AttrOk l i
theorem AttrsTo.step {l : List Pair} {k : Nat} (h : AttrsTo l k) (e : AttrOk l k) : AttrsTo l (k + 1) := by
  intro i hi
  by_cases c : i = k
  · subst c; exact e
  · exact h i (by omega)
def AttrsOk (l : List Pair) : Prop := l.length ≤ 12 ∧ AttrsTo l l.length
def attrB (l : List Pair) (i : Nat) : Bool := nameB (pairAt l i).1 && (runesB (pairAt l i).2 && (List.range i).all fun j => !decide ((pairAt l j).1 = (pairAt l i).1))
theorem attrB_iff (l : List Pair) (i : Nat) : attrB l i = true ↔ AttrOk l i := by
  unfold attrB AttrOk NoneTo
  rw [Bool.and_eq_true, Bool.and_eq_true, List.all_eq_true]
  simp only [List.mem_range, Bool.not_eq_true', decide_eq_false_iff_not, ne_eq]
def attrsB (l : List Pair) : Bool := decide (l.length ≤ 12) && (List.range l.length).all (attrB l)
theorem attrsB_iff (l : List Pair) : attrsB l = true ↔ AttrsOk l := by
  unfold attrsB AttrsOk AttrsTo
  rw [Bool.and_eq_true, decide_eq_true_eq, List.all_eq_true]
  simp only [List.mem_range, attrB_iff]
theorem attrsB_yes {l : List Pair} (h : AttrsOk l) : attrsB l = true := (attrsB_iff l).2 h
theorem attrsB_no {l : List Pair} (h : ¬ AttrsOk l) : attrsB l = false := by
  cases e : attrsB l with
  | false => rfl
  | true => exact absurd ((attrsB_iff l).1 e) h
def smallA (l : List Pair) : Prop := ∀ i, i < l.length → (pairAt l i).1.size ≤ 1048576 ∧ (pairAt l i).2.size ≤ 1048576
theorem pair_take (l : List Pair) (k i : Nat) (h : i < k) : pairAt (l.take k) i = pairAt l i := by
  simp [pairAt, List.getD, h]
theorem Attrs.take {w : World} {a : Option Addr} {l : List Pair} (h : Attrs w a l) (k : Nat) (hk : k ≤ l.length) : Attrs w a (l.take k) := by
  rcases h with rfl | ⟨b, off, rfl, hb, hc⟩
  · left; simp
  · refine Or.inr ⟨b, off, rfl, hb, fun i hi => ?_⟩
    have hi' : i < k := by simp at hi; omega
    rw [pair_take l k i hi']
    exact hc i (by omega)
theorem none_or (l : List Pair) (s : ByteArray) (n : Nat) (hn : n ≤ l.length) : NoneTo l s n ∨ ∃ k, k < n ∧ NoneTo l s k ∧ (pairAt l k).1 = s := by
  rcases firstAt_or (l.take n) s with h | ⟨k, h1, h2, h3⟩
  · left
    intro i hi
    have := h i (by simp; omega)
    rwa [pair_take l n i hi] at this
  · right
    have hk : k < n := by simp at h1; omega
    refine ⟨k, hk, fun i hi => ?_, by rwa [pair_take l n k hk] at h3⟩
    have := h2 i hi
    rwa [pair_take l n i (by omega)] at this
theorem place_no (w : World) (a : Option Addr) (c : Nat) (l : List Pair) (s : ByteArray) (n : Nat) (hn : n ≤ l.length) (hl : l.length ≤ 1048576) (hr : Attrs w a l) (hf : NoneTo l s n) :
    Calls Tryd.prog 135 #[.slice a n c, .string s] w fun e w' => e = .returned (.int .i64 (-1)) ∧ Nw w w' := by
  have e : (l.take n).length = n := by simp; omega
  have := attrPlace_no w a c (l.take n) s (by omega) (hr.take n hn) (fun i hi => by rw [pair_take l n i (by omega)]; exact hf i (by omega))
  rwa [e] at this
theorem place_yes (w : World) (a : Option Addr) (c : Nat) (l : List Pair) (s : ByteArray) (n k : Nat) (hn : n ≤ l.length) (hl : l.length ≤ 1048576) (hr : Attrs w a l) (hk : k < n) (h1 : NoneTo l s k) (h2 : (pairAt l k).1 = s) :
    Calls Tryd.prog 135 #[.slice a n c, .string s] w fun e w' => e = .returned (.int .i64 k) ∧ Nw w w' := by
  have e : (l.take n).length = n := by simp; omega
  have := attrPlace_yes w a c (l.take n) s k (by omega) (hr.take n hn) ⟨by omega, fun i hi => by rw [pair_take l n i (by omega)]; exact h1 i hi, by rw [pair_take l n k hk]; exact h2⟩
  rwa [e] at this

set_option maxHeartbeats 4000000 in
theorem sattrs (w : World) (a : Option Addr) (c : Nat) (l : List Pair) (hl : l.length ≤ 1048576) (hz : smallA l) (hcap : l.length ≤ c) (hr : Attrs w a l) :
    Calls Tryd.prog 77 #[.slice a l.length c] w fun e w' => e = .returned (.bool (attrsB l)) ∧ Nw w w' := by
  by_cases h12 : (l.length : Int) ≤ 12
  · have HR : Hid (Attrs w a l) := hr
    have HZ : Hid (smallA l) := hz
    clear hr hz
    go_enter Tryd.func77, Tryd.ntmps77
    go_wp2
    go_loopw [12] (fun i wr => ∃ k : Nat, k ≤ l.length ∧ i = .int .i64 k ∧ AttrsTo l k ∧ Nw w wr) (fun i _ => l.length - (intOf i).toNat)
    case atStart => exact ⟨0, Nat.zero_le _, rfl, fun i hi => absurd hi (by omega), Below.refl _ _⟩
    case round =>
      generalize hwr : wr = w1 at *
      clear hwr
      obtain ⟨k, hk, rfl, hto, hw⟩ := hrel
      have HO : Hid (AttrsTo l k) := hto
      have HW : Hid (Nw w w1) := hw
      clear hto
      by_cases hlt : k < l.length
      · rcases (HR.out.nw hw) with h | ⟨b, o, rfl, hb, hc⟩
        · rw [h] at hlt; simp at hlt
        obtain ⟨q0, q1⟩ := hc k hlt
        have HC : Hid (∀ i, i < l.length → w1.cell? ⟨b, o + i * 2, none⟩ = some (.string (pairAt l i).1) ∧ w1.cell? ⟨b, o + i * 2 + 1, none⟩ = some (.string (pairAt l i).2)) := hc
        obtain ⟨z1, z2⟩ := HZ.out k hlt
        clear hc hw
        by_cases hn : nameB (pairAt l k).1 = true
        · by_cases hg : runesB (pairAt l k).2 = true
          · have hsb : decide (0 ≤ sbadV (pairAt l k).2) = false := by rw [sbad_ge, hg]; rfl
            rcases none_or l (pairAt l k).1 k (by omega) with hno | ⟨j, hj, hj1, hj2⟩
            · have HK : Hid (AttrOk l k) := ⟨hn, hg, hno⟩
              have HNo : Hid (NoneTo l (pairAt l k).1 k) := hno
              clear hno hg
              generalize hx : (pairAt l k).1 = x at *
              generalize (pairAt l k).2 = y at *
              clear hx
              go_wp2_with (first | (go_at_call 78; refine (sname _ x z1).mono ?_; rw [hn]; rintro e w' ⟨rfl, rfl⟩) | (go_at_call 80; refine (sbad _ y z2).mono ?_; rintro e w' ⟨rfl, rfl⟩))
              have B1 : ∀ w2, Nw (w1.alloc (.cells #[.string x, .string y] 119)) w2 → w2.cell? ⟨w1.heap.size, 0, none⟩ = some (.string x) := fun w2 k2 => ((bcell k2).1 _ _ (by simp)).trans (by simp)
              have N1 : Nw w1 (w1.alloc (.cells #[.string x, .string y] 119)) := (Below.refl _ _).alloc (Nat.le_refl _) _
              have HB1 : Hid _ := B1
              have HN1 : Hid (Nw w1 (w1.alloc (.cells #[.string x, .string y] 119))) := N1
              clear B1 N1
              go_loopw [31] (fun i w2 => ∃ m : Nat, m ≤ k ∧ i = .int .i64 m ∧ Nw (w1.alloc (.cells #[.string x, .string y] 119)) w2) (fun i _ => k - (intOf i).toNat)
              case atStart => exact ⟨0, Nat.zero_le _, rfl, Below.refl _ _⟩
              case round =>
                obtain ⟨m, hm, rfl, hw2⟩ := hrel
                have HW2 : Hid (Nw (w1.alloc (.cells #[.string x, .string y] 119)) wr) := hw2
                have c1 := HB1.out _ hw2
                have hlt2 : w1.heap.size < wr.heap.size := by have := Below.size hw2; simp at this; omega
                have NN : Nw w1 wr := Nw.trans HN1.out hw2
                by_cases hmk : m < k
                · have e0 := ((bcell NN).1 _ _ hb).trans (HC.out m (by omega)).1
                  have e1 := ((bcell NN).1 _ _ hb).trans (HC.out m (by omega)).2
                  have hq : ((pairAt l m).1.toList == x.toList) = false := (Lib.bytes_beq_false_iff _ _).2 (HNo.out m hmk)
                  clear hw2 NN
                  generalize (pairAt l m).1 = xm at *
                  generalize (pairAt l m).2 = ym at *
                  go_wp2
                  go_roundw
                  case rel => exact ⟨m + 1, by omega, by go_num, HW2.out.trans ((Below.refl _ _).alloc (Nat.le_refl _) _)⟩
                  case measure => simp [intOf]; omega
                · have HE : Hid (Nw w wr) := HW.out.trans NN
                  clear hw2 NN
                  go_wp2
                  go_roundw
                  case rel => exact ⟨k + 1, by omega, by go_num, HO.out.step HK.out, HE.out⟩
                  case measure => simp [intOf]; omega
            · have HN : Hid (attrsB l = false) := attrsB_no fun h => (h.2 k hlt).2.2 j hj hj2
              have HJ1 : Hid (NoneTo l (pairAt l k).1 j) := hj1
              have HJ2 : Hid ((pairAt l j).1 = (pairAt l k).1) := hj2
              clear hg hj1 hj2
              generalize hx : (pairAt l k).1 = x at *
              generalize (pairAt l k).2 = y at *
              clear hx
              go_wp2_with (first | (go_at_call 78; refine (sname _ x z1).mono ?_; rw [hn]; rintro e w' ⟨rfl, rfl⟩) | (go_at_call 80; refine (sbad _ y z2).mono ?_; rintro e w' ⟨rfl, rfl⟩))
              have B1 : ∀ w2, Nw (w1.alloc (.cells #[.string x, .string y] 119)) w2 → w2.cell? ⟨w1.heap.size, 0, none⟩ = some (.string x) := fun w2 k2 => ((bcell k2).1 _ _ (by simp)).trans (by simp)
              have N1 : Nw w1 (w1.alloc (.cells #[.string x, .string y] 119)) := (Below.refl _ _).alloc (Nat.le_refl _) _
              have HB1 : Hid _ := B1
              have HN1 : Hid (Nw w1 (w1.alloc (.cells #[.string x, .string y] 119))) := N1
              clear B1 N1
              go_loopw [31] (fun i w2 => ∃ m : Nat, m ≤ j ∧ i = .int .i64 m ∧ Nw (w1.alloc (.cells #[.string x, .string y] 119)) w2) (fun i _ => k - (intOf i).toNat)
              case atStart => exact ⟨0, Nat.zero_le _, rfl, Below.refl _ _⟩
              case round =>
                obtain ⟨m, hm, rfl, hw2⟩ := hrel
                have HW2 : Hid (Nw (w1.alloc (.cells #[.string x, .string y] 119)) wr) := hw2
                have c1 := HB1.out _ hw2
                have hlt2 : w1.heap.size < wr.heap.size := by have := Below.size hw2; simp at this; omega
                have NN : Nw w1 wr := Nw.trans HN1.out hw2
                have e0 := ((bcell NN).1 _ _ hb).trans (HC.out m (by omega)).1
                have e1 := ((bcell NN).1 _ _ hb).trans (HC.out m (by omega)).2
                by_cases hmk : m = j
                · have hq : (x.toList == x.toList) = true := by simp
                  rw [hmk, HJ2.out] at e0
                  rw [hmk] at e1
                  subst hmk
                  have HE : Hid (Nw w wr) := HW.out.trans NN
                  clear hw2 NN
                  generalize (pairAt l m).2 = ym at *
                  go_wp2
                  go_ret
                  exact ⟨ret_bool HN.out.symm, HE.out.trans ((Below.refl _ _).alloc (Nat.le_refl _) _)⟩
                · have hq : ((pairAt l m).1.toList == x.toList) = false := (Lib.bytes_beq_false_iff _ _).2 (HJ1.out m (by omega))
                  clear hw2 NN
                  generalize (pairAt l m).1 = xm at *
                  generalize (pairAt l m).2 = ym at *
                  go_wp2
                  go_roundw
                  case rel => exact ⟨m + 1, by omega, by go_num, HW2.out.trans ((Below.refl _ _).alloc (Nat.le_refl _) _)⟩
                  case measure => simp [intOf]; omega
          · have hsb : decide (0 ≤ sbadV (pairAt l k).2) = true := by rw [sbad_ge]; simpa using hg
            have HN : Hid (attrsB l = false) := attrsB_no fun h => hg (h.2 k hlt).2.1
            clear hg
            generalize hx : (pairAt l k).1 = x at *
            generalize (pairAt l k).2 = y at *
            clear hx
            go_wp2_with (first | (go_at_call 78; refine (sname _ x z1).mono ?_; rw [hn]; rintro e w' ⟨rfl, rfl⟩) | (go_at_call 80; refine (sbad _ y z2).mono ?_; rintro e w' ⟨rfl, rfl⟩))
            go_ret
            exact ⟨ret_bool HN.out.symm, HW.out.trans ((Below.refl _ _).alloc (Nat.le_refl _) _)⟩
        · have HN : Hid (attrsB l = false) := attrsB_no fun h => hn (h.2 k hlt).1
          have hn' : nameB (pairAt l k).1 = false := by simpa using hn
          clear hn
          generalize hx : (pairAt l k).1 = x at *
          generalize (pairAt l k).2 = y at *
          clear hx
          go_wp2_with (go_at_call 78; refine (sname _ x z1).mono ?_; rw [hn']; rintro e w' ⟨rfl, rfl⟩)
          go_ret
          exact ⟨ret_bool HN.out.symm, HW.out.trans ((Below.refl _ _).alloc (Nat.le_refl _) _)⟩
      · have e : k = l.length := by omega
        have HB : Hid (attrsB l = true) := attrsB_yes ⟨by omega, by have := HO.out; rwa [e] at this⟩
        clear hw
        go_wp2
        go_ret
        exact ⟨ret_bool HB.out.symm, HW.out⟩
  · have HN : Hid (attrsB l = false) := attrsB_no fun h => by have := h.1; omega
    clear hr hz
    go_enter Tryd.func77, Tryd.ntmps77
    go_wp2
    go_ret
    exact ⟨ret_bool HN.out.symm, Below.refl _ _⟩
end Go.Proofs.YtgjnemmkpbkfhaaDoor
