/-
  Words of a text with blanks between, told by runes and told by bytes: pure facts, without the program; no condition but those of each line.
  How great what is read is; each theorem names its conditions.
  What the specification's reader of choices (l1Cur) answers: some number within bounds, and nothing that was there ahead of it is written; each theorem names its conditions.
  Of what was there nothing but the reader's block is written; each theorem names its conditions.
-/
import Derived.Lib.FieldsP
import Derived.Lib.SpaceUEq
import Derived.Lib.DecodeN
import Derived.Laws.RangeAny
import Derived.Test.YtpfhnedklihdoaaGreatDoorJAI
import Derived.Test.YtpfhnedklihdoaaGreatDoorJAA
import Derived.Laws.Bits64b
import Derived.Laws.Externs
import Derived.Laws.Pointers
import Derived.StillTactics
import Derived.BigRegion
namespace Go.Proofs.YtpfhnedklihdoaaGreatDoor
set_option linter.unusedVariables false

def blankN (x : Nat) : Bool := decide (x = 9 ∨ x = 10 ∨ x = 13 ∨ x = 32)
def byN (s : ByteArray) (i : Nat) : Nat := (s.get! i).toNat
theorem byN_of (s : ByteArray) (i : Nat) (h : i < s.size) : byN s i = s[i].toNat := by
  have h' : i < s.data.size := h
  have e : s.get! i = s[i] := by
    show s.data[i]! = s.data[i]
    exact getElem!_pos s.data i h'
  unfold byN
  rw [e]
theorem blankN_high {x : Nat} (h : 128 ≤ x) : blankN x = false := by unfold blankN; exact decide_eq_false (by omega)
/-- The spans of the words, by bytes. -/
def spB (s : ByteArray) : Nat → Nat → Option Nat → List (Nat × Nat) → List (Nat × Nat) × Option Nat
  | 0, _, st, acc => (acc, st)
  | f + 1, pos, st, acc =>
    if pos < s.size then
      (if blankN (byN s pos) then
        (match st with
         | some a => spB s f (pos + 1) none (acc ++ [(a, pos)])
         | none => spB s f (pos + 1) none acc)
       else
        (match st with
         | some a => spB s f (pos + 1) (some a) acc
         | none => spB s f (pos + 1) (some pos) acc))
    else (acc, st)
theorem spB_end (s : ByteArray) (f pos : Nat) (st : Option Nat) (acc : List (Nat × Nat)) (h : ¬ pos < s.size) : spB s f pos st acc = (acc, st) := by
  cases f with
  | zero => rfl
  | succ f => simp [spB, h]
theorem spB_blank_some (s : ByteArray) (f pos a : Nat) (acc : List (Nat × Nat)) (h : pos < s.size) (hb : blankN (byN s pos) = true) : spB s (f + 1) pos (some a) acc = spB s f (pos + 1) none (acc ++ [(a, pos)]) := by
  simp [spB, h, hb]
theorem spB_blank_none (s : ByteArray) (f pos : Nat) (acc : List (Nat × Nat)) (h : pos < s.size) (hb : blankN (byN s pos) = true) : spB s (f + 1) pos none acc = spB s f (pos + 1) none acc := by
  simp [spB, h, hb]
theorem spB_word_some (s : ByteArray) (f pos a : Nat) (acc : List (Nat × Nat)) (h : pos < s.size) (hb : blankN (byN s pos) = false) : spB s (f + 1) pos (some a) acc = spB s f (pos + 1) (some a) acc := by
  simp [spB, h, hb]
theorem spB_word_none (s : ByteArray) (f pos : Nat) (acc : List (Nat × Nat)) (h : pos < s.size) (hb : blankN (byN s pos) = false) : spB s (f + 1) pos none acc = spB s f (pos + 1) (some pos) acc := by
  simp [spB, h, hb]
theorem spB_skip (s : ByteArray) : ∀ (k f pos a : Nat) (acc : List (Nat × Nat)), pos + k ≤ s.size → (∀ j, j < k → blankN (byN s (pos + j)) = false) → spB s (f + k) pos (some a) acc = spB s f (pos + k) (some a) acc
  | 0, f, pos, a, acc, _, _ => rfl
  | k + 1, f, pos, a, acc, h, hj => by
    rw [show f + (k + 1) = (f + k) + 1 by omega, spB_word_some s _ pos _ _ (by omega) (by simpa using hj 0 (by omega)), spB_skip s k f (pos + 1) a acc (by omega) (fun j h2 => by have := hj (j + 1) (by omega); rwa [show pos + (j + 1) = pos + 1 + j by omega] at this), show pos + 1 + k = pos + (k + 1) by omega]
theorem spans_bytes (s : ByteArray) : ∀ (f g pos : Nat) (st : Option Nat) (acc : List (Nat × Nat)), s.size ≤ pos + f → s.size ≤ pos + g → Lib.spansFromP blankN s f pos st acc = spB s g pos st acc
  | 0, g, pos, st, acc, h, _ => by rw [spB_end _ _ _ _ _ (by omega)]; rfl
  | f + 1, g, pos, st, acc, h, hg => by
    by_cases hlt : pos < s.size
    · have hby := byN_of s pos hlt
      obtain ⟨g', rfl⟩ : ∃ g', g = g' + 1 := ⟨g - 1, by omega⟩
      by_cases ha : (s[pos]'hlt).toNat < 128
      · have hd := decode_ascii s pos hlt ha
        simp only [Lib.spansFromP, hlt, if_true, hd]
        cases hb : blankN (s[pos]'hlt).toNat
        · cases st with
          | none => rw [spB_word_none s _ _ _ hlt (by rw [hby]; exact hb)]; simp only [Bool.false_eq_true, if_false]; exact spans_bytes s f g' _ _ _ (by omega) (by omega)
          | some a => rw [spB_word_some s _ _ _ _ hlt (by rw [hby]; exact hb)]; simp only [Bool.false_eq_true, if_false]; exact spans_bytes s f g' _ _ _ (by omega) (by omega)
        · cases st with
          | none => rw [spB_blank_none s _ _ _ hlt (by rw [hby]; exact hb)]; simp only [if_true]; exact spans_bytes s f g' _ _ _ (by omega) (by omega)
          | some a => rw [spB_blank_some s _ _ _ _ hlt (by rw [hby]; exact hb)]; simp only [if_true]; exact spans_bytes s f g' _ _ _ (by omega) (by omega)
      · obtain ⟨h1, h2⟩ := decode_high s pos hlt (by omega)
        have hc := Lib.decodeN_conts (s.size - pos) (s.get! pos).toNat (s.get! (pos + 1)).toNat (s.get! (pos + 2)).toNat (s.get! (pos + 3)).toNat
        rw [← Lib.decode_at] at hc
        obtain ⟨c2, c3, c4, c5⟩ := hc
        have hb0 : blankN (byN s pos) = false := blankN_high (by rw [hby]; omega)
        simp only [Lib.spansFromP, hlt, if_true, blankN_high h1, Bool.false_eq_true, if_false]
        generalize (Utf8.decode s pos).2 = K at *
        have hin : ∀ j, j < K - 1 → blankN (byN s (pos + 1 + j)) = false := by
          intro j hj
          apply blankN_high
          unfold byN
          rcases (show j = 0 ∨ j = 1 ∨ j = 2 by omega) with rfl | rfl | rfl
          · have := (c2 (by omega)).1; show 128 ≤ (s.get! (pos + 1)).toNat; omega
          · have := (c3 (by omega)).1; show 128 ≤ (s.get! (pos + 2)).toNat; omega
          · have := (c4 (by omega)).1; show 128 ≤ (s.get! (pos + 3)).toNat; omega
        have hK : pos + K ≤ s.size := by
          rcases (show K = 1 ∨ K = 2 ∨ K = 3 ∨ K = 4 by omega) with rfl | rfl | rfl | rfl
          · omega
          · have := (c2 (by omega)).2; omega
          · have := (c3 (by omega)).2; omega
          · have := (c4 (by omega)).2; omega
        obtain ⟨g2, rfl⟩ : ∃ g2, g' = g2 + (K - 1) := ⟨g' - (K - 1), by omega⟩
        cases st with
        | none =>
          rw [spB_word_none s _ _ _ hlt hb0, spB_skip s (K - 1) g2 (pos + 1) pos acc (by omega) hin, show pos + 1 + (K - 1) = pos + K by omega]
          exact spans_bytes s f g2 _ _ _ (by omega) (by omega)
        | some a =>
          rw [spB_word_some s _ _ _ _ hlt hb0, spB_skip s (K - 1) g2 (pos + 1) a acc (by omega) hin, show pos + 1 + (K - 1) = pos + K by omega]
          exact spans_bytes s f g2 _ _ _ (by omega) (by omega)
    · rw [spB_end _ _ _ _ _ hlt, Lib.spansFromP_end _ _ _ _ _ _ hlt]
/-- The words of a text. -/
def wordsOf (s : ByteArray) : List ByteArray := (Lib.closeSpans s (spB s s.size 0 none [])).map fun x => s.extract x.1 x.2
theorem fields_words (s : ByteArray) : Lib.goFieldsP blankN s = wordsOf s := by
  unfold Lib.goFieldsP Lib.spansOfP wordsOf
  rw [spans_bytes s s.size s.size 0 none [] (by omega) (by omega)]
theorem wordsOf_len (s : ByteArray) : (wordsOf s).length ≤ s.size + 1 := by
  have key : ∀ (f pos : Nat) (st : Option Nat) (acc : List (Nat × Nat)), (spB s f pos st acc).1.length ≤ acc.length + f := by
    intro f
    induction f with
    | zero => intro pos st acc; exact Nat.le_refl _
    | succ f ih =>
      intro pos st acc
      unfold spB
      split
      · split
        · cases st with
          | none => have := ih (pos + 1) none acc; simp only; omega
          | some a => have := ih (pos + 1) none (acc ++ [(a, pos)]); simp at this ⊢; omega
        · cases st with
          | none => have := ih (pos + 1) (some pos) acc; simp only; omega
          | some a => have := ih (pos + 1) (some a) acc; simp only; omega
      · simp
  have h := key s.size 0 none []
  unfold wordsOf Lib.closeSpans
  rw [List.length_map]
  split
  · simp at h ⊢; omega
  · simp at h ⊢; omega
end Go.Proofs.YtpfhnedklihdoaaGreatDoor
namespace Go.Proofs.YtpfhnedklihdoaaGreatDoor
open Go.ChangeShapes Go.WideShapes Go.ChangeAt Go.RowKit
set_option linter.unusedVariables false

theorem rf_bd (σ : Int) (l : List UInt8) : -1099511627776 ≤ (rf σ l).1 ∧ (rf σ l).1 ≤ 1099511627776 := by
  have f : ∀ N, -1099511627776 ≤ (fin σ N).1 ∧ (fin σ N).1 ≤ 1099511627776 := fun N => by
    unfold fin
    split
    · rename_i h
      unfold okFix at h
      simp only [Bool.and_eq_true, decide_eq_true_eq] at h
      exact h
    · constructor <;> decide
  obtain ⟨a, t, rfl, ha, ht⟩ := parts l
  rcases ht with rfl | ⟨c, b, rfl, hc⟩
  · rw [List.append_nil, rf_all σ a ha]
    split
    · exact f _
    · constructor <;> decide
  · rw [rf_split σ a c b ha hc]
    split
    · exact f _
    · constructor <;> decide
theorem rfS_bd (l : List UInt8) : -1099511627776 ≤ (rfS l).1 ∧ (rfS l).1 ≤ 1099511627776 := by
  match l with
  | [] => exact rf_bd _ _
  | c :: t =>
    rw [rfS_cons]
    by_cases h45 : c = 45
    · rw [if_pos h45]; exact rf_bd _ _
    · rw [if_neg h45]
      by_cases h43 : c = 43
      · rw [if_pos h43]; exact rf_bd _ _
      · rw [if_neg h43]; exact rf_bd _ _
end Go.Proofs.YtpfhnedklihdoaaGreatDoor
namespace Go.Proofs.YtpfhnedklihdoaaGreatDoor
open Go.ChangeShapes Go.WideShapes Go.ChangeAt Go.RowKit
set_option linter.unusedVariables false

theorem Sel.drew {B : Nat} {a b : World} (h : Sel B a b) : Sel B a b.drew := ⟨h.os, h.tape, h.output, h.size, h.block⟩
theorem Sel.cell {B : Nat} {w w' : World} (h : Sel B w w') {p : Addr} (hp : p.block ≠ B) : w'.cell? p = w.cell? p := World.cell?_of_block (w := w) (h.block p.block hp)

/-- The bytes that a reader reads lie below B. -/
def Code (w : World) (B : Nat) (ca : Option Addr) (len : Nat) : Prop :=
  len = 0 ∨ ∃ b off, ca = some ⟨b, off, none⟩ ∧ b < B ∧ ∀ i, i < len → ∃ v : Int, 0 ≤ v ∧ v ≤ 255 ∧ w.cell? ⟨b, off + i, none⟩ = some (.int .u8 v)
/-- A reader in the block B. -/
def Cur (w : World) (B : Nat) (ca : Option Addr) (len cap : Nat) (n : Nat) : Prop :=
  ∃ (k : Nat) (sd : Int), k ≤ n ∧ 0 ≤ sd ∧ sd < 18446744073709551616 ∧ w.cell? ⟨B, 0, none⟩ = some (.slice ca len cap) ∧ w.cell? ⟨B, 1, none⟩ = some (.int .i64 (k : Int)) ∧ w.cell? ⟨B, 2, none⟩ = some (.int .u64 sd) ∧ (∀ o, w.frozen? ⟨B, o, none⟩ = false) ∧ B < w.heap.size

theorem and_byte (a : Int) (h0 : 0 ≤ a) (h : a < 18446744073709551616) : bits .and .u64 a 255 = a % 256 := by
  obtain ⟨x, rfl⟩ := Int.eq_ofNat_of_zero_le h0
  have e := bits_and_u64_nat x 255 (by omega) (by omega)
  have e2 : x &&& 255 = x % 256 := Nat.and_two_pow_sub_one_eq_mod x 8
  rw [e2] at e
  exact e

theorem cur_set (w : World) (B : Nat) (ca : Option Addr) (len cap n k : Nat) (sd S : Int) (hk : k ≤ n) (S0 : 0 ≤ S) (S1 : S < 18446744073709551616) (c0 : w.cell? ⟨B, 0, none⟩ = some (.slice ca len cap)) (c1 : w.cell? ⟨B, 1, none⟩ = some (.int .i64 (k : Int))) (c2 : w.cell? ⟨B, 2, none⟩ = some (.int .u64 sd)) (hf : ∀ o, w.frozen? ⟨B, o, none⟩ = false) (hB : B < w.heap.size) :
    Cur ((w.setCell ⟨B, 1, none⟩ (.int .i64 ((k : Int) + 1))).setCell ⟨B, 2, none⟩ (.int .u64 S)) B ca len cap (n + 1) ∧ Sel B w ((w.setCell ⟨B, 1, none⟩ (.int .i64 ((k : Int) + 1))).setCell ⟨B, 2, none⟩ (.int .u64 S)) := by
  refine ⟨⟨k + 1, S, by omega, S0, S1, ?_, ?_, ?_, ?_, by simpa [World.setCell] using hB⟩, ((Sel.refl B w).setCell _ _).setCell _ _⟩
  · rw [World.cell?_setCell_other _ _ _ _ (by simp), World.cell?_setCell_other _ _ _ _ (by simp)]; exact c0
  · rw [World.cell?_setCell_other _ _ _ _ (by simp)]
    rw [World.cell?_setCell_same (u := .int .i64 (k : Int)) (h := c1)]; rfl
  · apply World.cell?_setCell_same (u := .int .u64 sd)
    rw [World.cell?_setCell_other _ _ _ _ (by simp)]; exact c2
  · intro o; rw [World.frozen?_setCell, World.frozen?_setCell]; exact hf o

theorem wrap_bd (x : Int) : 0 ≤ IntKind.u64.wrap x ∧ IntKind.u64.wrap x < 18446744073709551616 := by rw [IntKind.wrap_u64]; omega

theorem seed_bd (X : Int) : 0 ≤ wrap64 (bits .and .u64 (IntKind.u64.wrap X / 1099511627776) 255) ∧ wrap64 (bits .and .u64 (IntKind.u64.wrap X / 1099511627776) 255) ≤ 255 := by
  have h := wrap_bd X
  rw [and_byte _ (by omega) (by omega)]
  generalize IntKind.u64.wrap X = Y at *
  rw [IntWalk.wrap64_in _ ⟨by omega, by omega⟩]
  omega

set_option maxHeartbeats 1000000 in
theorem next_any (w : World) (B : Nat) (ca : Option Addr) (len cap n : Nat) (hl : len ≤ 9223372036854775807) (hn : n ≤ 1099511627776) (hc : Cur w B ca len cap n) (hd : Code w B ca len) :
    Calls Tryz.prog 32 #[.pointer (some ⟨B, 0, none⟩)] w fun e w' => ∃ v : Int, e = .returned (.int .i64 v) ∧ 0 ≤ v ∧ v ≤ 255 ∧ Cur w' B ca len cap (n + 1) ∧ Sel B w w' := by
  obtain ⟨k, sd, hk, s0, s1, c0, c1, c2, hf, hB⟩ := hc
  by_cases hlt : k < len
  · rcases hd with h | ⟨b, off, rfl, hb, hcs⟩
    · exact absurd hlt (by omega)
    · obtain ⟨v, v0, v1, hv⟩ := hcs k hlt
      clear hcs
      have HC := fun S S0 S1 => Hid.out (cur_set w B (some ⟨b, off, none⟩) len cap n k sd S hk S0 S1 c0 c1 c2 hf hB)
      have HC' : Hid _ := HC
      clear HC
      go_enter Tryz.func32, Tryz.ntmps32
      go_wp2
      go_region
      go_wp2
      go_region
      go_wp2
      go_region
      go_wp2
      go_ret
      exact ⟨v, rfl, v0, v1, (HC'.out _ (wrap_bd _).1 (wrap_bd _).2).1, (HC'.out _ (wrap_bd _).1 (wrap_bd _).2).2.drew.drew.drew⟩
  · have HC := fun S S0 S1 => Hid.out (cur_set w B ca len cap n k sd S hk S0 S1 c0 c1 c2 hf hB)
    have HC' : Hid _ := HC
    clear HC
    go_enter Tryz.func32, Tryz.ntmps32
    go_wp2
    go_region
    go_wp2
    go_region
    go_wp2
    go_ret
    exact ⟨_, rfl, (seed_bd _).1, (seed_bd _).2, (HC'.out _ (wrap_bd _).1 (wrap_bd _).2).1, (HC'.out _ (wrap_bd _).1 (wrap_bd _).2).2.drew.drew⟩

theorem Code.below {w w1 : World} {B : Nat} {ca : Option Addr} {len : Nat} (h : Code w B ca len) (hb : Below B w w1) : Code w1 B ca len := by
  rcases h with h | ⟨b, off, h1, h2, h3⟩
  · exact Or.inl h
  · refine Or.inr ⟨b, off, h1, h2, fun i hi => ?_⟩
    obtain ⟨v, v0, v1, hv⟩ := h3 i hi
    exact ⟨v, v0, v1, by rw [hb.cell (p := ⟨b, off + i, none⟩) h2]; exact hv⟩
theorem Cur.mono {w : World} {B : Nat} {ca : Option Addr} {len cap n m : Nat} (h : Cur w B ca len cap n) (hm : n ≤ m) : Cur w B ca len cap m := by
  obtain ⟨k, sd, h1, h2⟩ := h
  exact ⟨k, sd, by omega, h2⟩

set_option maxHeartbeats 1000000 in
theorem pick_any (w : World) (B : Nat) (ca : Option Addr) (len cap n : Nat) (m : Int) (hl : len ≤ 9223372036854775807) (hn : n ≤ 1000000000) (m1 : 1 ≤ m) (m2 : m ≤ 1000000) (hc : Cur w B ca len cap n) (hd : Code w B ca len) :
    Calls Tryz.prog 17 #[.pointer (some ⟨B, 0, none⟩), .int .i64 m] w fun e w' => ∃ v : Int, e = .returned (.int .i64 v) ∧ 0 ≤ v ∧ v < m ∧ Cur w' B ca len cap (n + 2) ∧ Sel B w w' := by
  have HC : Hid _ := hc
  have HD : Hid _ := hd
  clear hc hd
  by_cases h1 : m = 1
  · subst h1
    go_enter Tryz.func17, Tryz.ntmps17
    go_wp2
    go_ret
    exact ⟨0, rfl, by omega, by omega, Cur.mono HC.out (by omega), Sel.refl _ _⟩
  have d1 : decide (m ≤ 1) = false := decide_eq_false (by omega)
  by_cases h2 : m ≤ 200
  · go_enter Tryz.func17, Tryz.ntmps17
    go_wp2_with fail
    refine (next_any w B ca len cap n hl (by omega) HC.out HD.out).mono ?_
    rintro e w1 ⟨v, rfl, v0, v1, hc1, hb1⟩
    have HC1 : Hid _ := hc1
    have HB1 : Hid _ := hb1
    clear hc1 hb1
    have x1 := Int.emod_nonneg v (b := m) (by omega)
    have x2 := Int.emod_lt_of_pos v (b := m) (by omega)
    go_wp2
    go_ret
    exact ⟨v % m, rfl, x1, x2, Cur.mono HC1.out (by omega), HB1.out⟩
  · go_enter Tryz.func17, Tryz.ntmps17
    go_wp2_with fail
    refine (next_any w B ca len cap n hl (by omega) HC.out HD.out).mono ?_
    rintro e w1 ⟨v, rfl, v0, v1, hc1, hb1⟩
    have HC1 : Hid _ := hc1
    have HB1 : Hid _ := hb1
    clear hc1 hb1
    go_wp2_with fail
    refine (next_any w1 B ca len cap (n + 1) hl (by omega) HC1.out (Code.below HD.out (Sel.below HB1.out))).mono ?_
    rintro e w2 ⟨u, rfl, u0, u1, hc2, hb2⟩
    have HC2 : Hid _ := hc2
    have HB2 : Hid _ := hb2
    clear hc2 hb2
    have x1 := Int.emod_nonneg (v * 256 + u) (b := m) (by omega)
    have x2 := Int.emod_lt_of_pos (v * 256 + u) (b := m) (by omega)
    go_wp2
    go_ret
    exact ⟨(v * 256 + u) % m, rfl, x1, x2, HC2.out, Sel.trans HB1.out HB2.out⟩

set_option maxHeartbeats 1000000 in
theorem one_any (w : World) (B : Nat) (ca : Option Addr) (len cap n : Nat) (m : Int) (hl : len ≤ 9223372036854775807) (hn : n ≤ 1000000000) (m1 : 1 ≤ m) (m2 : m ≤ 1000000) (hc : Cur w B ca len cap n) (hd : Code w B ca len) :
    Calls Tryz.prog 18 #[.pointer (some ⟨B, 0, none⟩), .int .i64 m] w fun e w' => ∃ v : Bool, e = .returned (.bool v) ∧ Cur w' B ca len cap (n + 2) ∧ Sel B w w' := by
  have HC : Hid _ := hc
  have HD : Hid _ := hd
  clear hc hd
  go_enter Tryz.func18, Tryz.ntmps18
  go_wp2_with fail
  refine (pick_any w B ca len cap n m hl hn m1 m2 HC.out HD.out).mono ?_
  rintro e w1 ⟨v, rfl, v0, v1, hc1, hb1⟩
  have HC1 : Hid _ := hc1
  have HB1 : Hid _ := hb1
  clear hc1 hb1
  go_wp2
  go_ret
  exact ⟨_, rfl, HC1.out, HB1.out⟩
theorem Cur.alloc {w : World} {B : Nat} {ca : Option Addr} {len cap n : Nat} (h : Cur w B ca len cap n) (c : Array Value) (t : TypeId) : Cur (w.alloc (.cells c t)) B ca len cap n := by
  obtain ⟨k, sd, h1, h2, h3, h4, h5, h6, h7, h8⟩ := h
  refine ⟨k, sd, h1, h2, h3, ?_, ?_, ?_, ?_, by simp; omega⟩
  · rw [World.cell?_alloc_past _ _ _ h8]; exact h4
  · rw [World.cell?_alloc_past _ _ _ h8]; exact h5
  · rw [World.cell?_alloc_past _ _ _ h8]; exact h6
  · intro o; rw [frozen?_alloc_cells]; exact h7 o
theorem Code.alloc {w : World} {B : Nat} {ca : Option Addr} {len : Nat} (h : Code w B ca len) (hB : B ≤ w.heap.size) (o : Obj) : Code (w.alloc o) B ca len :=
  Code.below h ((Below.refl B w).alloc hB o)
theorem Cur.lt {w : World} {B : Nat} {ca : Option Addr} {len cap n : Nat} (h : Cur w B ca len cap n) : B < w.heap.size := by
  obtain ⟨_, _, _, _, _, _, _, _, _, h⟩ := h; exact h
end Go.Proofs.YtpfhnedklihdoaaGreatDoor
namespace Go.Proofs.YtpfhnedklihdoaaGreatDoor
open Go.ChangeShapes Go.WideShapes Go.ChangeAt Go.RowKit
set_option linter.unusedVariables false

/-- Of what was there nothing but the block B is written. -/
def Gr (B : Nat) (w w' : World) : Prop := w.grownBy w' (some B)
theorem Gr.refl (B : Nat) (w : World) : Gr B w w := ⟨rfl, rfl, rfl, Nat.le_refl _, fun _ _ _ => rfl⟩
theorem Gr.size {B : Nat} {a b : World} (h : Gr B a b) : a.heap.size ≤ b.heap.size := World.grownBy.size h
theorem Gr.trans {B : Nat} {a b c : World} (h : Gr B a b) (k : Gr B b c) : Gr B a c :=
  ⟨(World.grownBy.os k).trans (World.grownBy.os h), (World.grownBy.tape k).trans (World.grownBy.tape h), (World.grownBy.output k).trans (World.grownBy.output h), Nat.le_trans h.size k.size,
   fun i hi hne => (World.grownBy.block k i (Nat.lt_of_lt_of_le hi h.size) hne).trans (World.grownBy.block h i hi hne)⟩
theorem Gr.of_sel {B : Nat} {a b : World} (h : Sel B a b) : Gr B a b :=
  ⟨h.os, h.tape, h.output, by rw [h.size]; exact Nat.le_refl _, fun i _ hne => h.block i (fun e => hne (by rw [e]))⟩
theorem Gr.of_nw {B : Nat} {a b : World} (h : Nw a b) : Gr B a b := ⟨Below.os h, Below.tape h, Below.output h, Below.size h, fun i hi _ => Below.block h i hi⟩
theorem Gr.alloc {B : Nat} {a b : World} (h : Gr B a b) (o : Obj) : Gr B a (b.alloc o) := h.trans (Gr.of_nw ((Below.refl _ _).alloc (Nat.le_refl _) _))
theorem Gr.set {B : Nat} {a b : World} (h : Gr B a b) {g : Nat} (hg : a.heap.size ≤ g) (o : Nat) (v : Value) : Gr B a (b.setCell ⟨g, o, none⟩ v) := by
  have h' : a.grownBy b (some B) := h
  exact ⟨h'.os, h'.tape, h'.output, by simpa [World.setCell] using h.size, fun i hi hne => by
    rw [Below.heap_setCell _ _ _ _ (by show i ≠ g; omega)]
    exact h'.block i hi hne⟩
theorem Gr.cell {B : Nat} {a b : World} (h : Gr B a b) {g : Nat} (hg : g < a.heap.size) (hne : g ≠ B) (o : Nat) : b.cell? ⟨g, o, none⟩ = a.cell? ⟨g, o, none⟩ :=
  World.cell?_of_block (w := a) (a := ⟨g, o, none⟩) (World.grownBy.block h g hg (fun e => hne (Option.some.inj e)))
theorem Gr.frozen {B : Nat} {a b : World} (h : Gr B a b) {g : Nat} (hg : g < a.heap.size) (hne : g ≠ B) (o : Nat) : b.frozen? ⟨g, o, none⟩ = a.frozen? ⟨g, o, none⟩ :=
  World.frozen?_of_block (w := a) (a := ⟨g, o, none⟩) (World.grownBy.block h g hg (fun e => hne (Option.some.inj e)))
theorem Gr.below {B : Nat} {a b : World} (h : Gr B a b) (hB : B ≤ a.heap.size) : Below B a b :=
  ⟨World.grownBy.os h, World.grownBy.tape h, World.grownBy.output h, h.size, fun i hi => World.grownBy.block h i (by omega) (fun e => by have := Option.some.inj e; omega)⟩
theorem Cur.set {w : World} {B : Nat} {ca : Option Addr} {len cap n : Nat} (h : Cur w B ca len cap n) {g : Nat} (hg : g ≠ B) (o : Nat) (v : Value) : Cur (w.setCell ⟨g, o, none⟩ v) B ca len cap n := by
  obtain ⟨k, sd, h1, h2, h3, c0, c1, c2, hf, hB⟩ := h
  have e : ∀ o', (w.setCell ⟨g, o, none⟩ v).cell? ⟨B, o', none⟩ = w.cell? ⟨B, o', none⟩ := fun o' => World.cell?_setCell_other _ _ _ _ (fun e => by injection e; omega)
  exact ⟨k, sd, h1, h2, h3, (e _).trans c0, (e _).trans c1, (e _).trans c2, fun o' => by rw [World.frozen?_setCell]; exact hf o', by simpa [World.setCell] using hB⟩
end Go.Proofs.YtpfhnedklihdoaaGreatDoor
