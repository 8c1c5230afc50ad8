/-
  Rules read from a text, on lists of bytes: pure facts; each theorem names its conditions.
  A text in small letters, by the specification; each theorem names its conditions.
  A declaration read by the specification; each theorem names its conditions.
  A text parted at a byte, and declarations read by the specification; each theorem names its conditions.
-/
import Derived.Test.YtnkmdmmlpidcmaaGreatDoorJAL
import Derived.Test.YtnkmdmmlpidcmaaGreatDoorJAG
import Derived.Test.YtnkmdmmlpidcmaaGreatDoorJAK
import Derived.Test.YtnkmdmmlpidcmaaGreatDoorJAA
import Derived.Lib.ConvBytes
import Derived.Lib.SlBytesRow
import Derived.Test.YtnkmdmmlpidcmaaGreatDoorJAI
namespace Go.Proofs.YtnkmdmmlpidcmaaGreatDoor
open Go.ChangeShapes Go.WideShapes Go.ChangeAt Go.RowKit
set_option linter.unusedVariables false

def selsW (s : ByteArray) : List (List PD) := (pcB 44 s).map selL
def selsOk (s : ByteArray) : Bool := (pcB 44 s).all selOk
/-- The text ahead of a rule's bracket, what is inside, and what comes behind. -/
def aheadL (l : List UInt8) : List UInt8 := l.take (brk 123 l)
def behindL (l : List UInt8) : List UInt8 := l.drop (brk 123 l + 1)
def insideL (l : List UInt8) : List UInt8 := (behindL l).take (brk 125 (behindL l))
def restL (l : List UInt8) : List UInt8 := (behindL l).drop (brk 125 (behindL l) + 1)
def ruleL (l : List UInt8) : RD := ⟨selsW (bA (aheadL l)), dcs (pcB 59 (bA (insideL l)))⟩
def oneR (l : List UInt8) : List RD := if selsOk (bA (aheadL l)) then [ruleL l] else []
def rulesF : Nat → List UInt8 → List RD
  | 0, _ => []
  | f + 1, l => if brk 123 l < l.length then oneR l ++ rulesF f (restL l) else []
theorem restL_len {l : List UInt8} (h : brk 123 l < l.length) : (restL l).length < l.length := by
  unfold restL behindL
  rw [List.length_drop, List.length_drop]
  omega
theorem rulesF_fuel : ∀ (f g : Nat) (l : List UInt8), l.length < f → l.length < g → rulesF f l = rulesF g l := by
  intro f
  induction f with
  | zero => intro g l h; omega
  | succ f ih =>
    intro g l h1 h2
    cases g with
    | zero => omega
    | succ g =>
      unfold rulesF
      by_cases h : brk 123 l < l.length
      · rw [if_pos h, if_pos h]
        have := restL_len h
        rw [ih g (restL l) (by omega) (by omega)]
      · rw [if_neg h, if_neg h]
def rulesA (l : List UInt8) : List RD := rulesF (l.length + 1) l
theorem rulesA_miss {l : List UInt8} (h : ¬ brk 123 l < l.length) : rulesA l = [] := by unfold rulesA rulesF; rw [if_neg h]
theorem rulesA_hit {l : List UInt8} (h : brk 123 l < l.length) : rulesA l = oneR l ++ rulesA (restL l) := by
  have := restL_len h
  unfold rulesA
  conv => lhs; unfold rulesF
  rw [if_pos h, rulesF_fuel l.length ((restL l).length + 1) (restL l) (by omega) (by omega)]
/-- The first thirty rules. -/
def rules30 (s : ByteArray) : List RD := (rulesA s.data.toList).take 30
/-- What has been read and what is left. -/
def RuSt (s : ByteArray) (r : List UInt8) (xs : List RD) : Prop := ∃ acc, rulesA s.data.toList = acc ++ rulesA r ∧ xs = acc.take 30
theorem RuSt.start (s : ByteArray) : RuSt s s.data.toList [] := ⟨[], rfl, rfl⟩
theorem RuSt.fin {s : ByteArray} {r : List UInt8} {xs : List RD} (h : RuSt s r xs) (hm : ¬ brk 123 r < r.length) : xs = rules30 s := by
  obtain ⟨acc, h1, h2⟩ := h
  rw [rulesA_miss hm, List.append_nil] at h1
  unfold rules30
  rw [h1]; exact h2
theorem RuSt.le {s : ByteArray} {r : List UInt8} {xs : List RD} (h : RuSt s r xs) : xs.length ≤ 30 := by
  obtain ⟨acc, _, h2⟩ := h
  rw [h2, List.length_take]; omega
theorem RuSt.bad {s : ByteArray} {r : List UInt8} {xs : List RD} (h : RuSt s r xs) (hm : brk 123 r < r.length) (hb : selsOk (bA (aheadL r)) = false) : RuSt s (restL r) xs := by
  obtain ⟨acc, h1, h2⟩ := h
  refine ⟨acc, ?_, h2⟩
  rw [h1, rulesA_hit hm]
  unfold oneR
  rw [hb]; rfl
theorem RuSt.full {s : ByteArray} {r : List UInt8} {xs : List RD} (h : RuSt s r xs) (hm : brk 123 r < r.length) (hx : xs.length = 30) : RuSt s (restL r) xs := by
  obtain ⟨acc, h1, h2⟩ := h
  refine ⟨acc ++ oneR r, by rw [h1, rulesA_hit hm, List.append_assoc], ?_⟩
  have : 30 ≤ acc.length := by rw [h2, List.length_take] at hx; omega
  rw [List.take_append_of_le_length this]; exact h2
theorem RuSt.more {s : ByteArray} {r : List UInt8} {xs : List RD} (h : RuSt s r xs) (hm : brk 123 r < r.length) (hb : selsOk (bA (aheadL r)) = true) (hx : xs.length < 30) : RuSt s (restL r) (xs ++ [ruleL r]) := by
  obtain ⟨acc, h1, h2⟩ := h
  refine ⟨acc ++ [ruleL r], ?_, ?_⟩
  · rw [h1, rulesA_hit hm]
    unfold oneR
    rw [hb, List.append_assoc]; rfl
  · have : acc.length < 30 := by rw [h2, List.length_take] at hx; omega
    rw [List.take_of_length_le (by simp; omega), h2, List.take_of_length_le (by omega)]
end Go.Proofs.YtnkmdmmlpidcmaaGreatDoor
namespace Go.Proofs.YtnkmdmmlpidcmaaGreatDoor
open Go.ChangeShapes Go.WideShapes Go.ChangeAt Go.RowKit
set_option linter.unusedVariables false

def byL (l : List UInt8) (k : Nat) : UInt8 := l.getD k 0
/-- A row of bytes of which the first k are in small letters. -/
structure LwR (g : Nat) (l : List UInt8) (k : Nat) (w : World) : Prop where
  lt : g < w.heap.size
  lo : ∀ j, j < k → w.cell? ⟨g, j, none⟩ = some (.int .u8 ((lowB (byL l j)).toNat : Int))
  hi : ∀ j, k ≤ j → j < l.length → w.cell? ⟨g, j, none⟩ = some (.int .u8 ((byL l j).toNat : Int))
  fz : ∀ j, j < l.length → w.frozen? ⟨g, j, none⟩ = false
theorem LwR.keep {g k : Nat} {l : List UInt8} {w : World} (h : LwR g l k w) (hk : k < l.length) (e : lowB (byL l k) = byL l k) : LwR g l (k + 1) w :=
  ⟨h.lt, fun j hj => by
    rcases Nat.lt_succ_iff_lt_or_eq.1 hj with h1 | h1
    · exact h.lo j h1
    · subst h1; rw [e]; exact h.hi j (Nat.le_refl _) hk, fun j h1 h2 => h.hi j (by omega) h2, h.fz⟩
theorem LwR.put {g k : Nat} {l : List UInt8} {w : World} (h : LwR g l k w) (hk : k < l.length) : LwR g l (k + 1) (w.setCell ⟨g, k, none⟩ (.int .u8 ((lowB (byL l k)).toNat : Int))) := by
  have far : ∀ j, j ≠ k → (w.setCell ⟨g, k, none⟩ (.int .u8 ((lowB (byL l k)).toNat : Int))).cell? ⟨g, j, none⟩ = w.cell? ⟨g, j, none⟩ := fun j hj => World.cell?_setCell_other _ _ _ _ (fun e => by injection e; omega)
  refine ⟨by simpa [World.setCell] using h.lt, fun j hj => ?_, fun j h1 h2 => ?_, fun j hj => by rw [World.frozen?_setCell]; exact h.fz j hj⟩
  · by_cases e : j = k
    · subst e; exact World.cell?_setCell_same w ⟨g, j, none⟩ _ (h.hi j (Nat.le_refl _) hk)
    · rw [far j e]; exact h.lo j (by omega)
  · rw [far j (by omega)]; exact h.hi j (by omega) h2
theorem LwR.start (w : World) (s : ByteArray) (t : TypeId) : LwR w.heap.size s.data.toList 0 (Lib.bytesWorld w t s) := by
  refine ⟨by rw [Lib.bytesWorld_size]; omega, fun j hj => absurd hj (by omega), fun j _ hj => ?_, fun j hj => ?_⟩
  · rw [data_len] at hj
    rw [Lib.bytesWorld_cell w t s j hj]; rfl
  · rw [data_len] at hj
    unfold World.frozen?
    rw [Lib.bytesWorld_at_new]
    have h1 : s.size ≤ (Lib.bytesCells w t s).size := by simp [Lib.bytesCells]
    simp only
    rw [Bool.and_eq_false_iff]
    left
    simp
    omega
theorem bytes_nw (w : World) (t : TypeId) (s : ByteArray) : Nw w (Lib.bytesWorld w t s) := by
  refine ⟨?_, ?_, ?_, by rw [Lib.bytesWorld_size]; omega, fun k hk => Lib.bytesWorld_at_old w t s k hk⟩
  · unfold Lib.bytesWorld World.freeze; split <;> rfl
  · unfold Lib.bytesWorld World.freeze; split <;> rfl
  · unfold Lib.bytesWorld World.freeze; split <;> rfl
theorem low_up {b : UInt8} (h : 65 ≤ b.toNat ∧ b.toNat ≤ 90) : ((lowB b).toNat : Int) = (b.toNat : Int) + 32 := by
  unfold lowB
  rw [if_pos h, UInt8.toNat_add]
  have : (32 : UInt8).toNat = 32 := rfl
  rw [this, Nat.mod_eq_of_lt (by omega)]
  omega
theorem low_no {b : UInt8} (h : ¬ (65 ≤ b.toNat ∧ b.toNat ≤ 90)) : lowB b = b := by unfold lowB; rw [if_neg h]
set_option maxHeartbeats 4000000 in
theorem slow (s : ByteArray) (w : World) (hs : s.size ≤ 1048576) :
    Calls Tryz.prog 65 #[.string s] w fun e w' => e = .returned (.string (bA (lowL s.data.toList))) ∧ Nw w w' := by
  have hcv := Lib.run_convert_string_bytes (P := Tryz.prog) w 9 22 5 s (u := .string) Tryz.underlying9 Tryz.underlying22 Tryz.underlying5
  have HST : Hid (LwR w.heap.size s.data.toList 0 (Lib.bytesWorld w 5 s)) := LwR.start w s 5
  have HNW : Hid (Nw w (Lib.bytesWorld w 5 s)) := bytes_nw w 5 s
  generalize Lib.bytesWorld w 5 s = W at *
  generalize grownCap w s.size 0 5 = C at *
  go_enter Tryz.func65, Tryz.ntmps65
  go_wp2
  clear hcv
  go_loopw [10] (fun i wr => ∃ k : Nat, k ≤ s.size ∧ i = .int .i64 (k : Int) ∧ LwR w.heap.size s.data.toList k wr ∧ Nw w wr) (fun i _ => s.size - (intOf i).toNat)
  case atStart => exact ⟨0, Nat.zero_le _, rfl, HST.out, HNW.out⟩
  case round =>
    obtain ⟨k, hk, rfl, hl, hw⟩ := hrel
    have HL : Hid (LwR w.heap.size s.data.toList k wr) := hl
    have HW : Hid (Nw w wr) := hw
    have hlt0 := hl.lt
    have hfz := hl.fz
    by_cases hlt : k < s.size
    · have q0 := hl.hi k (Nat.le_refl _) (by rw [data_len]; exact hlt)
      have qf := hfz k (by rw [data_len]; exact hlt)
      have hub : (byL s.data.toList k).toNat ≤ 255 := by have := UInt8.toNat_lt (byL s.data.toList k); omega
      clear hl hw hfz
      by_cases hu : 65 ≤ (byL s.data.toList k).toNat ∧ (byL s.data.toList k).toNat ≤ 90
      · have HP : Hid _ := HL.out.put (by rw [data_len]; exact hlt)
        have hlo := low_up hu
        rw [hlo] at HP
        have h1 : (65 : Int) ≤ ((byL s.data.toList k).toNat : Int) := by omega
        have h2 : ((byL s.data.toList k).toNat : Int) ≤ 90 := by omega
        clear hlo hu
        generalize (byL s.data.toList k).toNat = x at *
        go_wp2
        go_roundw
        case rel => exact ⟨k + 1, by omega, by go_num, HP.out, HW.out.setCell (Nat.le_refl _) _⟩
        case measure => simp [intOf]; omega
      · have HP : Hid _ := HL.out.keep (by rw [data_len]; exact hlt) (low_no hu)
        by_cases h1 : (65 : Int) ≤ ((byL s.data.toList k).toNat : Int)
        · have h2 : ¬ (((byL s.data.toList k).toNat : Int) ≤ 90) := by omega
          clear hu
          generalize (byL s.data.toList k).toNat = x at *
          go_wp2
          go_roundw
          case rel => exact ⟨k + 1, by omega, by go_num, HP.out, HW.out⟩
          case measure => simp [intOf]; omega
        · clear hu
          generalize (byL s.data.toList k).toNat = x at *
          go_wp2
          go_roundw
          case rel => exact ⟨k + 1, by omega, by go_num, HP.out, HW.out⟩
          case measure => simp [intOf]; omega
    · have e : k = s.size := by omega
      have hsz : (bA (lowL s.data.toList)).size = s.size := by rw [bA_size]; unfold lowL; rw [List.length_map, data_len]
      have hbk := Lib.run_convert_whole (P := Tryz.prog) wr 22 5 9 Tryz.underlying22 Tryz.underlying5 Tryz.underlying9 w.heap.size 0 (bA (lowL s.data.toList)) (by
        intro i hi
        rw [hsz] at hi
        rw [Nat.zero_add, HL.out.lo i (by omega)]
        congr 2
        have hi2 : i < s.data.size := hi
        rw [getB _ i (by rw [hsz]; exact hi)]
        simp [bA, lowL, byL]
        rw [Array.getElem?_eq_getElem hi2]
        rfl) C
      rw [hsz] at hbk
      subst e
      clear hl hw hfz
      go_wp2
      go_ret
      exact ⟨rfl, HW.out⟩
end Go.Proofs.YtnkmdmmlpidcmaaGreatDoor
namespace Go.Proofs.YtnkmdmmlpidcmaaGreatDoor
open Go.ChangeShapes Go.WideShapes Go.ChangeAt Go.RowKit
set_option linter.unusedVariables false

theorem TB_bA (s : ByteArray) : TB s = bA (tmL s.data.toList) := rfl
theorem strimL (s : ByteArray) (w : World) (hs : s.size ≤ 1048576) : Calls Tryz.prog 66 #[.string s] w fun e w' => e = .returned (.string (bA (tmL s.data.toList))) ∧ w' = w := strim s w hs
/-- What is left of the declaration's value. -/
def vlS (v : List UInt8) : List UInt8 := (valS v).1
theorem suf_at {v : List UInt8} : markL10.isSuffixOf v = decide (10 ≤ v.length ∧ v.drop (v.length - 10) = markL10) := by
  rw [Bool.eq_iff_iff, List.isSuffixOf_iff_suffix, decide_eq_true_eq]
  constructor
  · intro h
    have hl := h.length_le
    refine ⟨hl, ?_⟩
    obtain ⟨t, ht⟩ := h
    rw [← ht]
    have : (t ++ markL10).length - 10 = t.length := by rw [List.length_append]; show t.length + 10 - 10 = _; omega
    rw [this, List.drop_left]
  · rintro ⟨h1, h2⟩
    exact ⟨v.take (v.length - 10), by rw [← h2, List.take_append_drop]⟩
theorem Bx3.s1 {b : Nat} {w : World} {u0 u1 u2 : Value} (h : Bx3 b w u0 u1 u2) (v : Value) : Bx3 b (w.setCell ⟨b, 1, none⟩ v) u0 v u2 := by
  have far : ∀ x, x ≠ 1 → (w.setCell ⟨b, 1, none⟩ v).cell? ⟨b, x, none⟩ = w.cell? ⟨b, x, none⟩ := fun x hx => World.cell?_setCell_other _ _ _ _ (fun e => by injection e; omega)
  exact ⟨(far 0 (by omega)).trans h.c0, World.cell?_setCell_same w ⟨b, 1, none⟩ _ h.c1, (far 2 (by omega)).trans h.c2, fun o => by rw [World.frozen?_setCell]; exact h.fz o⟩
theorem Bx3.s2 {b : Nat} {w : World} {u0 u1 u2 : Value} (h : Bx3 b w u0 u1 u2) (v : Value) : Bx3 b (w.setCell ⟨b, 2, none⟩ v) u0 u1 v := by
  have far : ∀ x, x ≠ 2 → (w.setCell ⟨b, 2, none⟩ v).cell? ⟨b, x, none⟩ = w.cell? ⟨b, x, none⟩ := fun x hx => World.cell?_setCell_other _ _ _ _ (fun e => by injection e; omega)
  exact ⟨(far 0 (by omega)).trans h.c0, (far 1 (by omega)).trans h.c1, World.cell?_setCell_same w ⟨b, 2, none⟩ _ h.c2, fun o => by rw [World.frozen?_setCell]; exact h.fz o⟩
theorem Bx3.off {b : Nat} {w : World} {u0 u1 u2 : Value} (h : Bx3 b w u0 u1 u2) (b2 o : Nat) (v : Value) (hne : b ≠ b2) : Bx3 b (w.setCell ⟨b2, o, none⟩ v) u0 u1 u2 := by
  have far : ∀ x, (w.setCell ⟨b2, o, none⟩ v).cell? ⟨b, x, none⟩ = w.cell? ⟨b, x, none⟩ := fun x => World.cell?_setCell_other _ _ _ _ (fun e => by injection e; omega)
  exact ⟨(far 0).trans h.c0, (far 1).trans h.c1, (far 2).trans h.c2, fun x => by rw [World.frozen?_setCell]; exact h.fz x⟩
set_option maxRecDepth 100000 in
set_option maxHeartbeats 16000000 in
theorem sdecl (s : ByteArray) (w : World) (hs : s.size ≤ 1048576) :
    Calls Tryz.prog 113 #[.string s] w fun e w' => DeclSays s e ∧ Nw w w' := by
  have hDP : declP s = (declS s.data.toList).map fun d => ⟨bA d.1, bA d.2.1, d.2.2⟩ := by unfold declP; rw [← decl_one]
  have h1 := tm_len s.data.toList
  rw [data_len] at h1
  unfold declS at hDP
  have HB0 : Hid (Bx3 w.heap.size (w.alloc (.cells #[.string ⟨#[]⟩, .string ⟨#[]⟩, .bool false] 36)) (.string ⟨#[]⟩) (.string ⟨#[]⟩) (.bool false)) := Bx3.new _ _ _ _ _
  have HN0 : Hid (Nw w (w.alloc (.cells #[.string ⟨#[]⟩, .string ⟨#[]⟩, .bool false] 36))) := (Below.refl _ _).alloc (Nat.le_refl _) _
  have HDP : Hid _ := hDP
  clear hDP
  have HT0 : Hid (∀ W, Calls Tryz.prog 66 #[.string s] W fun e w' => e = .returned (.string (bA (tmL s.data.toList))) ∧ w' = W) := fun W => strimL s W hs
  generalize tmL s.data.toList = T at *
  have hrl := runL_le T
  have hT : (bA T).size = T.length := bA_size T
  have HR0 : Hid (∀ W, Calls Tryz.prog 105 #[.string (bA T)] W fun e w' => e = .returned (.int .i64 (runL T : Nat)) ∧ w' = W) := fun W => by
    have := srunL W (bA T) (by rw [hT]; omega)
    rw [bA_list] at this
    exact this
  go_enter Tryz.func113, Tryz.ntmps113
  go_wp2_with fail
  generalize w.alloc (.cells #[.string ⟨#[]⟩, .string ⟨#[]⟩, .bool false] 36) = W at *
  refine Calls.mono (HT0.out _) ?_
  rintro e w1 ⟨rfl, hq⟩
  have hq2 := hq.symm; clear hq; subst hq2
  go_wp2_with fail
  refine Calls.mono (HR0.out _) ?_
  rintro e w1 ⟨rfl, hq⟩
  have hq2 := hq.symm; clear hq; subst hq2
  obtain ⟨z0, z1, z2, zf⟩ := HB0.out
  by_cases hn : runL T = 0
  · have HX : Hid (declP s = none) := by show declP s = none; rw [HDP.out, if_pos hn]; rfl
    rw [hn]
    obtain ⟨y0, y1, y2⟩ := set3d W w.heap.size (.string ⟨#[]⟩) (.string ⟨#[]⟩) (.bool false) z0 z1 z2
    clear hn
    go_wp2
    refine bodyPost_ret (v := .tuple #[.agg #[.string ⟨#[]⟩, .string ⟨#[]⟩, .bool false], .bool false]) (by simp [results, Tryz.results113, go_sem, y0, y1, y2]) rfl ⟨Or.inr ⟨HX.out, _, _, _, rfl⟩, ?_⟩
    exact ((HN0.out.setCell (Nat.le_refl _) _).setCell (Nat.le_refl _) _).setCell (Nat.le_refl _) _
  · have hdp := HDP.out
    rw [if_neg hn] at hdp
    have HD1 : Hid _ := hdp
    clear hdp HDP
    have HE1 : Hid ((bA T).extract 0 (runL T) = bA (T.take (runL T))) := by show _ = _; rw [ext_head, bA_list]
    have HE2 : Hid ((bA T).extract (runL T) (bA T).size = bA (T.drop (runL T))) := by show _ = _; rw [ext_tail, bA_list]
    rw [hT] at HE2
    have HL1 : Hid (∀ W, Calls Tryz.prog 65 #[.string (bA (T.take (runL T)))] W fun e w' => e = .returned (.string (bA (lowL (T.take (runL T))))) ∧ Nw W w') := fun W => by
      have := slow (bA (T.take (runL T))) W (by rw [bA_size, List.length_take]; omega)
      rw [bA_list] at this
      exact this
    have HT1 : Hid (∀ W, Calls Tryz.prog 66 #[.string (bA (T.drop (runL T)))] W fun e w' => e = .returned (.string (bA (tmL (T.drop (runL T))))) ∧ w' = W) := fun W => by
      have := strimL (bA (T.drop (runL T))) W (by rw [bA_size, List.length_drop]; omega)
      rw [bA_list] at this
      exact this
    have hr2 := tm_len (T.drop (runL T))
    rw [List.length_drop] at hr2
    generalize runL T = n at *
    have hnI : ((n : Int) == 0) = false := by simp; omega
    generalize tmL (T.drop n) = R at *
    generalize lowL (T.take n) = LN at *
    generalize bA (T.take n) = TN at *
    generalize bA (T.drop n) = TD at *
    generalize bA T = BT at *
    go_wp2_with fail
    rw [HE1.out]
    refine Calls.mono (HL1.out _) ?_
    rintro e w2 ⟨rfl, k2⟩
    have HB2 : Hid _ := HB0.out.nw k2
    have HN2 : Hid (Nw w w2) := Nw.trans HN0.out k2
    clear k2 z0 z1 z2 zf
    go_wp2_with fail
    rw [HE2.out]
    refine Calls.mono (HT1.out _) ?_
    rintro e w3 ⟨rfl, hq⟩
    have hq2 := hq.symm; clear hq; subst hq2
    have HB3 : Hid (Bx3 w.heap.size (w2.alloc (.cells #[.string (bA LN), .string ⟨#[]⟩, .bool false] 36)) (.string ⟨#[]⟩) (.string ⟨#[]⟩) (.bool false)) := HB2.out.nw ((Below.refl _ _).alloc (Nat.le_refl _) _)
    have HC3 : Hid (Bx3 w2.heap.size (w2.alloc (.cells #[.string (bA LN), .string ⟨#[]⟩, .bool false] 36)) (.string (bA LN)) (.string ⟨#[]⟩) (.bool false)) := Bx3.new _ _ _ _ _
    have HN3 : Hid (Nw w (w2.alloc (.cells #[.string (bA LN), .string ⟨#[]⟩, .bool false] 36))) := Nw.trans HN2.out ((Below.refl _ _).alloc (Nat.le_refl _) _)
    have hbl : w.heap.size < w2.heap.size := HB2.out.lt
    clear HB2
    generalize hW3 : w2.alloc (.cells #[.string (bA LN), .string ⟨#[]⟩, .bool false] 36) = W3 at *
    clear hW3
    obtain ⟨z0, z1, z2, zf⟩ := HB3.out
    have hRs : (bA R).size = R.length := bA_size R
    have hcells := HC3.out
    obtain ⟨p0, p1, p2, pf⟩ := hcells
    cases R with
    | nil =>
      have HX : Hid (declP s = none) := by show declP s = none; rw [HD1.out]; rfl
      have hb0 : bA ([] : List UInt8) = ⟨#[]⟩ := rfl
      rw [hb0]
      clear HC3 p0 p1 p2 pf hRs
      obtain ⟨y0, y1, y2⟩ := set3d W3 w.heap.size (.string ⟨#[]⟩) (.string ⟨#[]⟩) (.bool false) z0 z1 z2
      go_wp2
      refine bodyPost_ret (v := .tuple #[.agg #[.string ⟨#[]⟩, .string ⟨#[]⟩, .bool false], .bool false]) (by simp [results, Tryz.results113, go_sem, y0, y1, y2]) rfl ⟨Or.inr ⟨HX.out, _, _, _, rfl⟩, ?_⟩
      exact ((HN3.out.setCell (Nat.le_refl _) _).setCell (Nat.le_refl _) _).setCell (Nat.le_refl _) _
    | cons c v =>
      have hb0 : 0 < (bA (c :: v)).size := by rw [bA_size]; simp
      have hbc : (bA (c :: v))[0]'hb0 = c := by rw [getB]; simp [bA]
      have hlen : (((bA (c :: v)).size : Int) == 0) = false := by rw [beq_eq_false_iff_ne]; omega
      have HE3 : Hid ((bA (c :: v)).extract 1 (bA (c :: v)).size = bA v) := by show _ = _; rw [ext_tail, bA_list]; rfl
      by_cases h58 : c = 58
      · subst h58
        have g58 : ((((bA (58 :: v))[0]'hb0).toNat : Int) == 58) = true := by rw [hbc]; rfl
        have g58' : ((((bA (58 :: v))[0]'hb0).toNat : Int) != 58) = false := by rw [hbc]; rfl
        have HD2 : Hid (declP s = if fit60 (valS (tmL v)).1 then some ⟨bA LN, bA (valS (tmL v)).1, (valS (tmL v)).2⟩ else none) := by
          show _ = _
          rw [HD1.out]
          simp only [if_true]
          split <;> rfl
        have hvl : v.length ≤ 1048576 := by simp at hr2; omega
        have hv1 := tm_len v
        have HT2 : Hid (∀ W, Calls Tryz.prog 66 #[.string (bA v)] W fun e w' => e = .returned (.string (bA (tmL v))) ∧ w' = W) := fun W => by
          have := strimL (bA v) W (by rw [bA_size]; omega)
          rw [bA_list] at this
          exact this
        clear hbc HD1 hRs hr2
        generalize tmL v = V1 at *
        generalize bA v = BV at *
        generalize bA (58 :: v) = BR at *
        go_wp2_with fail
        rw [HE3.out]
        refine Calls.mono (HT2.out _) ?_
        rintro e w4 ⟨rfl, hq⟩
        have hq2 := hq.symm; clear hq; subst hq2
        have hV1 : (bA V1).size = V1.length := bA_size V1
        have hS1 : (bA V1).size ≤ 1048576 := by rw [hV1]; omega
        by_cases h10 : 10 ≤ V1.length
        · have h10I : (10 : Int) ≤ ((bA V1).size : Int) := by rw [hV1]; omega
          have HE4 : Hid ((bA V1).extract (V1.length - 10) V1.length = bA (V1.drop (V1.length - 10))) := by show _ = _; rw [← hV1, ext_tail, bA_list, hV1]
          have HE5 : Hid ((bA V1).extract 0 (V1.length - 10) = bA (V1.take (V1.length - 10))) := by show _ = _; rw [ext_head, bA_list]
          by_cases hm : V1.drop (V1.length - 10) = markL10
          · have hsuf : markL10.isSuffixOf V1 = true := by rw [suf_at]; exact decide_eq_true ⟨h10, hm⟩
            have hmb : ((bA (V1.drop (V1.length - 10))).toList == [33, 105, 109, 112, 111, 114, 116, 97, 110, 116]) = true := by
              rw [hm, ByteArray.toList_eq, bA_list]; rfl
            have HDE : Hid (declP s = if fit60 (tmL (V1.take (V1.length - 10))) then some ⟨bA LN, bA (tmL (V1.take (V1.length - 10))), true⟩ else none) := by
              show _ = _
              rw [HD2.out]
              unfold valS
              rw [if_pos hsuf]
            have HT3 : Hid (∀ W, Calls Tryz.prog 66 #[.string (bA (V1.take (V1.length - 10)))] W fun e w' => e = .returned (.string (bA (tmL (V1.take (V1.length - 10))))) ∧ w' = W) := fun W => by
              have := strimL (bA (V1.take (V1.length - 10))) W (by rw [bA_size, List.length_take]; omega)
              rw [bA_list] at this
              exact this
            have hvs := bA_size (tmL (V1.take (V1.length - 10)))
            have hvt := tm_len (V1.take (V1.length - 10))
            rw [List.length_take] at hvt
            generalize tmL (V1.take (V1.length - 10)) = VL at *
            have hVL : VL.length ≤ 1048576 := by omega
            obtain ⟨X8, hX8⟩ : ∃ X8, W3.setCell ⟨w2.heap.size, 2, none⟩ (.bool true) = X8 := ⟨_, rfl⟩
            have HX8 : Hid (W3.setCell ⟨w2.heap.size, 2, none⟩ (.bool true) = X8) := hX8
            have HC8 : Hid (Bx3 w2.heap.size X8 (.string (bA LN)) (.string ⟨#[]⟩) (.bool true)) := by show Bx3 _ _ _ _ _; rw [← hX8]; exact HC3.out.s2 _
            have HB8 : Hid (Bx3 w.heap.size X8 (.string ⟨#[]⟩) (.string ⟨#[]⟩) (.bool false)) := by show Bx3 _ _ _ _ _; rw [← hX8]; exact HB3.out.off _ _ _ (by omega)
            have HN8 : Hid (Nw w X8) := by show Nw _ _; rw [← hX8]; exact HN3.out.setCell (by show w.heap.size ≤ w2.heap.size; omega) _
            obtain ⟨X9, hX9⟩ : ∃ X9, X8.setCell ⟨w2.heap.size, 1, none⟩ (.string (bA VL)) = X9 := ⟨_, rfl⟩
            have HX9 : Hid (X8.setCell ⟨w2.heap.size, 1, none⟩ (.string (bA VL)) = X9) := hX9
            have HPB : Hid (Bx3 w2.heap.size X9 (.string (bA LN)) (.string (bA VL)) (.bool true)) := by show Bx3 _ _ _ _ _; rw [← hX9]; exact HC8.out.s1 _
            have HZB : Hid (Bx3 w.heap.size X9 (.string ⟨#[]⟩) (.string ⟨#[]⟩) (.bool false)) := by show Bx3 _ _ _ _ _; rw [← hX9]; exact HB8.out.off _ _ _ (by omega)
            have HN9 : Hid (Nw w X9) := by show Nw _ _; rw [← hX9]; exact HN8.out.setCell (by show w.heap.size ≤ w2.heap.size; omega) _
            clear hX8 hX9 hsuf hm hvt
            generalize bA (V1.take (V1.length - 10)) = B10 at *
            generalize bA (V1.drop (V1.length - 10)) = D10 at *
            generalize bA V1 = BV1 at *
            have hx1 := HE4.out
            go_wp2_with fail
            rw [HX8.out, HE5.out]
            refine Calls.mono (HT3.out _) ?_
            rintro e w5 ⟨rfl, hq⟩
            have hq2 := hq.symm; clear hq; subst hq2
            obtain ⟨r0, r1, r2, rf⟩ := HC8.out
            clear z0 z1 z2 zf p0 p1 p2 pf
            go_wp2
            rw [HX9.out]
            clear r0 r1 r2 rf
            obtain ⟨p0, p1, p2, pf⟩ := HPB.out
            obtain ⟨z0, z1, z2, zf⟩ := HZB.out
            obtain ⟨_, _, y2⟩ := set3d X9 w.heap.size (.string (bA LN)) (.string (bA VL)) (.bool true) z0 z1 z2
            have y0 := World.cell?_setCell_same X9 ⟨w.heap.size, 0, none⟩ (.string (bA LN)) z0
            have y1 := World.cell?_setCell_same (X9.setCell ⟨w.heap.size, 0, none⟩ (.string (bA LN))) ⟨w.heap.size, 1, none⟩ (.string (bA VL)) ((World.cell?_setCell_other _ _ _ _ (fun e => by injection e; omega)).trans z1)
            have q0 : X9.drew.cell? ⟨w2.heap.size, 0, none⟩ = some (.string (bA LN)) := p0
            have q1 : X9.drew.cell? ⟨w2.heap.size, 1, none⟩ = some (.string (bA VL)) := p1
            have q2 : X9.drew.cell? ⟨w2.heap.size, 2, none⟩ = some (.bool true) := p2
            have e0 : X9.drew.cell? ⟨w.heap.size, 0, none⟩ = some (.string ⟨#[]⟩) := z0
            have e1 : X9.drew.cell? ⟨w.heap.size, 1, none⟩ = some (.string ⟨#[]⟩) := z1
            have e2 : X9.drew.cell? ⟨w.heap.size, 2, none⟩ = some (.bool false) := z2
            have ef : ∀ o, X9.drew.frozen? ⟨w.heap.size, o, none⟩ = false := zf
            have HND : Hid (Nw w X9.drew) := Below.drew HN9.out
            have HIN : Hid (∀ W, Calls Tryz.prog 61 #[.int .i64 (VL.length : Int), .int .i64 1, .int .i64 60] W fun e w' => e = .returned (.bool (fit60 VL)) ∧ w' = W) := fun W => by
              have := in_any W VL.length 1 60
              have e : decide ((1 : Int) ≤ (VL.length : Int) ∧ (VL.length : Int) ≤ 60) = fit60 VL := by unfold fit60; rw [Bool.eq_iff_iff, decide_eq_true_eq, decide_eq_true_eq]; omega
              rw [e] at this
              exact this
            generalize fit60 VL = ft at *
            go_region_with (go_at_call 61; refine (HIN.out _).mono ?_; rintro e w' ⟨rfl, hq⟩; have hq2 := hq.symm; clear hq; subst hq2)
            all_goals
              go_wp2
              refine bodyPost_ret (v := .tuple #[.agg #[.string (bA LN), .string (bA VL), .bool true], .bool ft]) (by simp [results, Tryz.results113, go_sem, y0, y1, y2]) rfl ⟨?_, ((HND.out.setCell (Nat.le_refl _) _).setCell (Nat.le_refl _) _).setCell (Nat.le_refl _) _⟩
              cases ft with
              | true => exact Or.inl ⟨⟨bA LN, bA VL, true⟩, by rw [HDE.out]; rfl, rfl⟩
              | false => exact Or.inr ⟨by rw [HDE.out]; rfl, _, _, _, rfl⟩
          · have hsuf : markL10.isSuffixOf V1 = false := by rw [suf_at]; exact decide_eq_false (fun h => hm h.2)
            have hmb : ((bA (V1.drop (V1.length - 10))).toList == [33, 105, 109, 112, 111, 114, 116, 97, 110, 116]) = false := by
              rw [beq_eq_false_iff_ne, ByteArray.toList_eq, bA_list]; exact hm
            have HDE : Hid (declP s = if fit60 V1 then some ⟨bA LN, bA V1, false⟩ else none) := by
              show _ = _
              rw [HD2.out]
              unfold valS
              rw [hsuf]
              simp only [Bool.false_eq_true, if_false]
            obtain ⟨X9, hX9⟩ : ∃ X9, W3.setCell ⟨w2.heap.size, 1, none⟩ (.string (bA V1)) = X9 := ⟨_, rfl⟩
            have HX9 : Hid (W3.setCell ⟨w2.heap.size, 1, none⟩ (.string (bA V1)) = X9) := hX9
            have HPB : Hid (Bx3 w2.heap.size X9 (.string (bA LN)) (.string (bA V1)) (.bool false)) := by show Bx3 _ _ _ _ _; rw [← hX9]; exact HC3.out.s1 _
            have HZB : Hid (Bx3 w.heap.size X9 (.string ⟨#[]⟩) (.string ⟨#[]⟩) (.bool false)) := by show Bx3 _ _ _ _ _; rw [← hX9]; exact HB3.out.off _ _ _ (by omega)
            have HN9 : Hid (Nw w X9) := by show Nw _ _; rw [← hX9]; exact HN3.out.setCell (by show w.heap.size ≤ w2.heap.size; omega) _
            clear hX9 hsuf
            have hx1 := HE4.out
            generalize bA (V1.drop (V1.length - 10)) = D10 at *
            go_wp2
            rw [HX9.out]
            clear p0 p1 p2 pf z0 z1 z2 zf hx1 hmb
            generalize V1 = VL at *
            obtain ⟨p0, p1, p2, pf⟩ := HPB.out
            obtain ⟨z0, z1, z2, zf⟩ := HZB.out
            obtain ⟨_, _, y2⟩ := set3d X9 w.heap.size (.string (bA LN)) (.string (bA VL)) (.bool false) z0 z1 z2
            have y0 := World.cell?_setCell_same X9 ⟨w.heap.size, 0, none⟩ (.string (bA LN)) z0
            have y1 := World.cell?_setCell_same (X9.setCell ⟨w.heap.size, 0, none⟩ (.string (bA LN))) ⟨w.heap.size, 1, none⟩ (.string (bA VL)) ((World.cell?_setCell_other _ _ _ _ (fun e => by injection e; omega)).trans z1)
            have q0 : X9.drew.cell? ⟨w2.heap.size, 0, none⟩ = some (.string (bA LN)) := p0
            have q1 : X9.drew.cell? ⟨w2.heap.size, 1, none⟩ = some (.string (bA VL)) := p1
            have q2 : X9.drew.cell? ⟨w2.heap.size, 2, none⟩ = some (.bool false) := p2
            have e0 : X9.drew.cell? ⟨w.heap.size, 0, none⟩ = some (.string ⟨#[]⟩) := z0
            have e1 : X9.drew.cell? ⟨w.heap.size, 1, none⟩ = some (.string ⟨#[]⟩) := z1
            have e2 : X9.drew.cell? ⟨w.heap.size, 2, none⟩ = some (.bool false) := z2
            have ef : ∀ o, X9.drew.frozen? ⟨w.heap.size, o, none⟩ = false := zf
            have HND : Hid (Nw w X9.drew) := Below.drew HN9.out
            have HIN : Hid (∀ W, Calls Tryz.prog 61 #[.int .i64 (VL.length : Int), .int .i64 1, .int .i64 60] W fun e w' => e = .returned (.bool (fit60 VL)) ∧ w' = W) := fun W => by
              have := in_any W VL.length 1 60
              have e : decide ((1 : Int) ≤ (VL.length : Int) ∧ (VL.length : Int) ≤ 60) = fit60 VL := by unfold fit60; rw [Bool.eq_iff_iff, decide_eq_true_eq, decide_eq_true_eq]; omega
              rw [e] at this
              exact this
            generalize fit60 VL = ft at *
            go_region_with (go_at_call 61; refine (HIN.out _).mono ?_; rintro e w' ⟨rfl, hq⟩; have hq2 := hq.symm; clear hq; subst hq2)
            all_goals
              go_wp2
              refine bodyPost_ret (v := .tuple #[.agg #[.string (bA LN), .string (bA VL), .bool false], .bool ft]) (by simp [results, Tryz.results113, go_sem, y0, y1, y2]) rfl ⟨?_, ((HND.out.setCell (Nat.le_refl _) _).setCell (Nat.le_refl _) _).setCell (Nat.le_refl _) _⟩
              cases ft with
              | true => exact Or.inl ⟨⟨bA LN, bA VL, false⟩, by rw [HDE.out]; rfl, rfl⟩
              | false => exact Or.inr ⟨by rw [HDE.out]; rfl, _, _, _, rfl⟩
        · have h10I : ¬ ((10 : Int) ≤ ((bA V1).size : Int)) := by rw [hV1]; omega
          have hsuf : markL10.isSuffixOf V1 = false := by rw [suf_at]; exact decide_eq_false (fun h => h10 h.1)
          have HDE : Hid (declP s = if fit60 V1 then some ⟨bA LN, bA V1, false⟩ else none) := by
            show _ = _
            rw [HD2.out]
            unfold valS
            rw [hsuf]
            simp only [Bool.false_eq_true, if_false]
          obtain ⟨X9, hX9⟩ : ∃ X9, W3.setCell ⟨w2.heap.size, 1, none⟩ (.string (bA V1)) = X9 := ⟨_, rfl⟩
          have HX9 : Hid (W3.setCell ⟨w2.heap.size, 1, none⟩ (.string (bA V1)) = X9) := hX9
          have HPB : Hid (Bx3 w2.heap.size X9 (.string (bA LN)) (.string (bA V1)) (.bool false)) := by show Bx3 _ _ _ _ _; rw [← hX9]; exact HC3.out.s1 _
          have HZB : Hid (Bx3 w.heap.size X9 (.string ⟨#[]⟩) (.string ⟨#[]⟩) (.bool false)) := by show Bx3 _ _ _ _ _; rw [← hX9]; exact HB3.out.off _ _ _ (by omega)
          have HN9 : Hid (Nw w X9) := by show Nw _ _; rw [← hX9]; exact HN3.out.setCell (by show w.heap.size ≤ w2.heap.size; omega) _
          clear hX9 hsuf
          go_wp2
          rw [HX9.out]
          clear p0 p1 p2 pf z0 z1 z2 zf
          generalize V1 = VL at *
          obtain ⟨p0, p1, p2, pf⟩ := HPB.out
          obtain ⟨z0, z1, z2, zf⟩ := HZB.out
          obtain ⟨_, _, y2⟩ := set3d X9 w.heap.size (.string (bA LN)) (.string (bA VL)) (.bool false) z0 z1 z2
          have y0 := World.cell?_setCell_same X9 ⟨w.heap.size, 0, none⟩ (.string (bA LN)) z0
          have y1 := World.cell?_setCell_same (X9.setCell ⟨w.heap.size, 0, none⟩ (.string (bA LN))) ⟨w.heap.size, 1, none⟩ (.string (bA VL)) ((World.cell?_setCell_other _ _ _ _ (fun e => by injection e; omega)).trans z1)
          have q0 : X9.drew.cell? ⟨w2.heap.size, 0, none⟩ = some (.string (bA LN)) := p0
          have q1 : X9.drew.cell? ⟨w2.heap.size, 1, none⟩ = some (.string (bA VL)) := p1
          have q2 : X9.drew.cell? ⟨w2.heap.size, 2, none⟩ = some (.bool false) := p2
          have e0 : X9.drew.cell? ⟨w.heap.size, 0, none⟩ = some (.string ⟨#[]⟩) := z0
          have e1 : X9.drew.cell? ⟨w.heap.size, 1, none⟩ = some (.string ⟨#[]⟩) := z1
          have e2 : X9.drew.cell? ⟨w.heap.size, 2, none⟩ = some (.bool false) := z2
          have ef : ∀ o, X9.drew.frozen? ⟨w.heap.size, o, none⟩ = false := zf
          have HND : Hid (Nw w X9.drew) := Below.drew HN9.out
          have HIN : Hid (∀ W, Calls Tryz.prog 61 #[.int .i64 (VL.length : Int), .int .i64 1, .int .i64 60] W fun e w' => e = .returned (.bool (fit60 VL)) ∧ w' = W) := fun W => by
            have := in_any W VL.length 1 60
            have e : decide ((1 : Int) ≤ (VL.length : Int) ∧ (VL.length : Int) ≤ 60) = fit60 VL := by unfold fit60; rw [Bool.eq_iff_iff, decide_eq_true_eq, decide_eq_true_eq]; omega
            rw [e] at this
            exact this
          generalize fit60 VL = ft at *
          go_region_with (go_at_call 61; refine (HIN.out _).mono ?_; rintro e w' ⟨rfl, hq⟩; have hq2 := hq.symm; clear hq; subst hq2)
          all_goals
            go_wp2
            refine bodyPost_ret (v := .tuple #[.agg #[.string (bA LN), .string (bA VL), .bool false], .bool ft]) (by simp [results, Tryz.results113, go_sem, y0, y1, y2]) rfl ⟨?_, ((HND.out.setCell (Nat.le_refl _) _).setCell (Nat.le_refl _) _).setCell (Nat.le_refl _) _⟩
            cases ft with
            | true => exact Or.inl ⟨⟨bA LN, bA VL, false⟩, by rw [HDE.out]; rfl, rfl⟩
            | false => exact Or.inr ⟨by rw [HDE.out]; rfl, _, _, _, rfl⟩
      · have g58 : ((((bA (c :: v))[0]'hb0).toNat : Int) == 58) = false := by rw [hbc]; exact (byte_ne 58 (by omega) h58).1
        have g58' : ((((bA (c :: v))[0]'hb0).toNat : Int) != 58) = true := by rw [hbc]; exact (byte_ne 58 (by omega) h58).2
        have HX : Hid (declP s = none) := by show declP s = none; rw [HD1.out]; simp only [if_neg h58]; rfl
        clear HC3 p0 p1 p2 pf hbc HD1 hRs h58
        generalize bA (c :: v) = BR at *
        obtain ⟨y0, y1, y2⟩ := set3d W3 w.heap.size (.string ⟨#[]⟩) (.string ⟨#[]⟩) (.bool false) z0 z1 z2
        go_wp2
        refine bodyPost_ret (v := .tuple #[.agg #[.string ⟨#[]⟩, .string ⟨#[]⟩, .bool false], .bool false]) (by simp [results, Tryz.results113, go_sem, y0, y1, y2]) rfl ⟨Or.inr ⟨HX.out, _, _, _, rfl⟩, ?_⟩
        exact ((HN3.out.setCell (Nat.le_refl _) _).setCell (Nat.le_refl _) _).setCell (Nat.le_refl _) _
end Go.Proofs.YtnkmdmmlpidcmaaGreatDoor
namespace Go.Proofs.YtnkmdmmlpidcmaaGreatDoor
open Go.ChangeShapes Go.WideShapes Go.ChangeAt Go.RowKit
set_option linter.unusedVariables false

structure SpSt (c : UInt8) (s : ByteArray) (at_ pos : Nat) (D : List ByteArray) : Prop where
  le1 : at_ ≤ pos
  le2 : pos ≤ s.size
  len : D.length ≤ pos
  pc : pcB c s = D ++ (pcs c (s.data.toList.drop at_)).map bA
  br : brk c (s.data.toList.drop at_) = pos - at_ + brk c (s.data.toList.drop pos)
theorem SpSt.start (c : UInt8) (s : ByteArray) : SpSt c s 0 0 [] := ⟨Nat.le_refl _, Nat.zero_le _, Nat.zero_le _, rfl, by simp⟩
theorem SpSt.other {c : UInt8} {s : ByteArray} {a pos : Nat} {D : List ByteArray} (h : SpSt c s a pos D) (hlt : pos < s.size) (hc : s[pos] ≠ c) : SpSt c s a (pos + 1) D := by
  refine ⟨by have := h.le1; omega, hlt, by have := h.len; omega, h.pc, ?_⟩
  have h1 := h.le1
  rw [h.br, hd_byte s pos hlt, brk_cons, if_neg hc]
  omega
theorem SpSt.cut {c : UInt8} {s : ByteArray} {a pos : Nat} {D : List ByteArray} (h : SpSt c s a pos D) (hlt : pos < s.size) (hc : s[pos] = c) : SpSt c s (pos + 1) (pos + 1) (D ++ [s.extract a pos]) := by
  have h1 := h.le1
  have hb : brk c (s.data.toList.drop a) = pos - a := by
    rw [h.br, hd_byte s pos hlt, brk_cons, if_pos hc]
    omega
  refine ⟨Nat.le_refl _, hlt, by rw [List.length_append]; have := h.len; simp; omega, ?_, by simp⟩
  rw [h.pc, pcs_hit c _ (by rw [hb, List.length_drop, data_len]; omega), hb, List.drop_drop, List.map_cons, List.append_assoc]
  have e1 : a + (pos - a + 1) = pos + 1 := by omega
  have e2 : s.extract a pos = bA ((s.data.toList.drop a).take (pos - a)) := by
    have := ext_mid s a (pos - a)
    rw [show a + (pos - a) = pos by omega] at this
    exact this
  rw [e1, e2]
  rfl
theorem SpSt.fin {c : UInt8} {s : ByteArray} {a pos : Nat} {D : List ByteArray} (h : SpSt c s a pos D) (hlt : ¬ pos < s.size) : pcB c s = D ++ [s.extract a pos] := by
  have h1 := h.le1
  have h2 := h.le2
  have hb : brk c (s.data.toList.drop a) = pos - a := by
    rw [h.br, hd_none s pos hlt]
    rfl
  rw [h.pc, pcs_miss c _ (by rw [hb, List.length_drop, data_len]; omega)]
  have e2 : s.extract a pos = bA (s.data.toList.drop a) := by
    have e : pos = s.size := by omega
    rw [e, ext_tail]
  rw [e2]
  rfl
theorem byte_eq {b c : UInt8} (h : b = c) : ((b.toNat : Int) == (c.toNat : Int)) = true := by rw [h]; simp
theorem byte_neq {b c : UInt8} (h : b ≠ c) : ((b.toNat : Int) == (c.toNat : Int)) = false := by
  rw [beq_eq_false_iff_ne]
  intro e
  exact h (UInt8.toNat_inj.1 (by omega))
set_option maxHeartbeats 8000000 in
theorem ssplit (s : ByteArray) (c : UInt8) (w : World) (hs : s.size ≤ 1048576) :
    Calls Tryz.prog 81 #[.string s, .int .u8 (c.toNat : Int)] w fun e w' => ∃ v, e = .returned v ∧ Txs w' w.heap.size v (pcB c s) ∧ Nw w w' := by
  go_enter Tryz.func81, Tryz.ntmps81
  go_wp2
  go_loopw [5, 6, 7] (fun v y i wr => Nw w wr ∧ ((∃ (a pos : Nat) (D : List ByteArray), i = .int .i64 (pos : Int) ∧ y = .int .i64 (a : Int) ∧ SpSt c s a pos D ∧ Txs wr w.heap.size v D) ∨ (i = .int .i64 ((s.size + 1 : Nat) : Int) ∧ (∃ a : Int, y = .int .i64 a) ∧ Txs wr w.heap.size v (pcB c s)))) (fun _ _ i _ => s.size + 2 - (intOf i).toNat)
  case atStart => exact ⟨Below.refl _ _, Or.inl ⟨0, 0, [], rfl, rfl, SpSt.start c s, Txs.nil _ _⟩⟩
  case round =>
    obtain ⟨hw, ⟨a, pos, D, rfl, rfl, hst, hv⟩ | ⟨rfl, ⟨a, rfl⟩, hv⟩⟩ := hrel
    · have HW : Hid (Nw w wr) := hw
      have HV : Hid (Txs wr w.heap.size _ D) := hv
      have h1 := hst.le1
      have h2 := hst.le2
      have hcl : D.length ≤ 10000000 := by have := hst.len; omega
      have HB : ∀ o1, Hid (Nw wr (wr.alloc o1)) := fun o1 => (Below.refl _ _).alloc (Nat.le_refl _) _
      have hBs : ∀ o1, Hid (w.heap.size ≤ (wr.alloc o1).heap.size) := fun o1 => Nat.le_trans (Below.size hw) (Below.size (HB o1).out)
      clear hw hv
      have hleI : (pos : Int) ≤ (s.size : Int) := by omega
      by_cases hlt : pos < s.size
      · have hne : ((pos : Int) == (s.size : Int)) = false := by rw [beq_eq_false_iff_ne]; omega
        by_cases hc : s[pos] = c
        · have g1 := byte_eq hc
          have HS : Hid (SpSt c s (pos + 1) (pos + 1) (D ++ [s.extract a pos])) := hst.cut hlt hc
          clear hst hc
          go_wp2_with (at_builtin; (refine wp_tx _ rfl _ _ rfl w.heap.size _ _ (s.extract a pos) rfl (HV.out.nw (HB _).out) _ rfl ?c1 hcl ?c3 ?_))
          case c1 => simp
          case c3 => exact (hBs _).out
          intro v' w' q1 q2
          have HN : Hid (Nw w w') := Below.trans (HW.out.trans (HB _).out) (Txs.below (HV.out.nw (HB _).out) q2 (hBs _).out)
          have H1 : Hid (Txs w' w.heap.size v' (D ++ [s.extract a pos])) := q1
          clear q1 q2
          go_wp2
          go_roundw
          case rel => exact ⟨HN.out, Or.inl ⟨pos + 1, pos + 1, _, by go_num, by go_num, HS.out, H1.out⟩⟩
          case measure => simp [intOf]; try omega
        · have g1 := byte_neq hc
          have HS : Hid (SpSt c s a (pos + 1) D) := hst.other hlt hc
          clear hst hc
          go_wp2
          go_roundw
          case rel => exact ⟨HW.out, Or.inl ⟨a, pos + 1, D, by go_num, rfl, HS.out, HV.out⟩⟩
          case measure => simp [intOf]; try omega
      · have e : pos = s.size := by omega
        have hne : ((pos : Int) == (s.size : Int)) = true := by rw [e]; simp
        have HE : Hid (pcB c s = D ++ [s.extract a pos]) := hst.fin hlt
        have HPS : Hid (pos = s.size) := e
        clear hst e
        go_wp2_with (at_builtin; (refine wp_tx _ rfl _ _ rfl w.heap.size _ _ (s.extract a pos) rfl (HV.out.nw (HB _).out) _ rfl ?c1 hcl ?c3 ?_))
        case c1 => simp
        case c3 => exact (hBs _).out
        intro v' w' q1 q2
        have HN : Hid (Nw w w') := Below.trans (HW.out.trans (HB _).out) (Txs.below (HV.out.nw (HB _).out) q2 (hBs _).out)
        have H1 : Hid (Txs w' w.heap.size v' (pcB c s)) := by show Txs _ _ _ _; rw [HE.out]; exact q1
        clear q1 q2
        go_wp2
        go_roundw
        case rel => exact ⟨HN.out, Or.inr ⟨by rw [← HPS.out]; go_num, ⟨_, rfl⟩, H1.out⟩⟩
        case measure => simp [intOf]; try omega
    · have HW : Hid (Nw w wr) := hw
      have HV : Hid (Txs wr w.heap.size _ (pcB c s)) := hv
      clear hw hv
      have hgt : ¬ (((s.size + 1 : Nat) : Int) ≤ (s.size : Int)) := by omega
      go_wp2
      go_ret
      exact ⟨_, rfl, HV.out, HW.out⟩
set_option maxHeartbeats 8000000 in
theorem sdecls (s : ByteArray) (w : World) (hs : s.size ≤ 1048576) :
    Calls Tryz.prog 80 #[.string s] w fun e w' => DeclsSays s w w' e ∧ Nw w w' := by
  have HSZ : Hid (∀ i, (strAt (pcB 59 s) i).size ≤ 1048576) := fun i => pcB_size 59 s hs i
  have hpl : (pcB 59 s).length ≤ 1048577 := by rw [pcB_len]; have := count_le_size 59 s; omega
  have HI : Hid (Calls Tryz.prog 81 #[.string s, .int .u8 59] w fun e w' => ∃ v, e = .returned v ∧ Txs w' w.heap.size v (pcB 59 s) ∧ Nw w w') := ssplit s 59 w hs
  unfold DeclsSays
  generalize pcB 59 s = ps at *
  go_enter Tryz.func80, Tryz.ntmps80
  go_wp2_with fail
  refine Calls.mono HI.out ?_
  rintro e w1 ⟨v, rfl, hv, k1⟩
  clear HI
  obtain ⟨pa, pc, rfl, hst⟩ := hv.strs
  have HST : Hid (Strs w1 pa ps) := hst
  have HN1 : Hid (Nw w w1) := k1
  clear hv hst k1
  go_wp2
  go_loopw [3, 11] (fun v i wr => ∃ (k : Nat) (els : List (El DD)), k ≤ ps.length ∧ i = .int .i64 k ∧ RowO 36 3 EDecl wr w1.heap.size v els ∧ els.map El.x = dcs (ps.take k) ∧ Nw w1 wr) (fun _ i _ => ps.length - (intOf i).toNat)
  case atStart => exact ⟨0, [], Nat.zero_le _, rfl, RowO.nil _ _ _ _ _, rfl, Below.refl _ _⟩
  case round =>
    obtain ⟨k, els, hk, rfl, hro, hmx, hw⟩ := hrel
    have hel : els.length = (dcs (ps.take k)).length := by have := congrArg List.length hmx; simpa using this
    have h12 := dcs_le (ps.take k)
    obtain ⟨va, vc, hv⟩ := hro.slice
    subst hv
    have HR : Hid (RowO 36 3 EDecl wr w1.heap.size (.slice va els.length vc) els) := hro
    have HM : Hid (els.map El.x = dcs (ps.take k)) := hmx
    have HW : Hid (Nw w1 wr) := hw
    have HEL : Hid (els.length = (dcs (ps.take k)).length) := hel
    have hel12 : els.length ≤ 12 := by omega
    clear hro hmx hel h12
    by_cases hlt : k < ps.length
    · rcases (HST.out.nw hw) with h | ⟨b, o, rfl, hb, hc⟩
      · rw [h] at hlt; simp at hlt
      have q0 := hc k hlt
      have hz := HSZ.out k
      have HTK : Hid (ps.take (k + 1) = ps.take k ++ [strAt ps k]) := take_at hlt
      clear hw hc
      generalize strAt ps k = x at *
      have hkI : (k : Int) < (ps.length : Int) := by omega
      go_wp2_with fail
      refine Calls.mono (sdecl x _ hz) ?_
      rintro e w2 ⟨⟨d, hp, rfl⟩ | ⟨hp, tx, ty, tb, rfl⟩, k2⟩
      · by_cases h5 : els.length = 12
        · have HX : Hid (dcs (ps.take (k + 1)) = dcs (ps.take k)) := by show _ = _; rw [HTK.out]; exact dcs_full (by rw [← HEL.out]; exact h5)
          have HR2 : ∀ o, Hid (RowO 36 3 EDecl (w2.alloc o) w1.heap.size (.slice va els.length vc) els) := fun o => (HR.out.nw EDecl.kept k2).nw EDecl.kept ((Below.refl _ _).alloc (Nat.le_refl _) _)
          have HN2 : ∀ o, Hid (Nw w1 (w2.alloc o)) := fun o => Nw.trans (Nw.trans HW.out k2) ((Below.refl _ _).alloc (Nat.le_refl _) _)
          have g12 : ¬ ((els.length : Int) < 12) := by omega
          clear k2 q0 hp h5
          go_wp2
          go_roundw
          case rel => exact ⟨k + 1, els, by omega, by go_num, (HR2 _).out, by rw [HX.out]; exact HM.out, (HN2 _).out⟩
          case measure => simp [intOf]; omega
        · have HX : Hid (dcs (ps.take (k + 1)) = dcs (ps.take k) ++ [d]) := by show _ = _; rw [HTK.out]; exact dcs_more hp (by rw [← HEL.out]; omega)
          have HK2 : Hid (Nw wr w2) := k2
          have g12 : (els.length : Int) < 12 := by omega
          have HL12 : Hid (els.length ≤ 10000000) := by show _ ≤ _; omega
          clear k2 q0 hp h5
          obtain ⟨dn, dv, di⟩ := d
          simp only
          have HNA : ∀ o1 o2, Hid (Nw wr ((w2.alloc o1).alloc o2)) := fun o1 o2 => Nw.trans HK2.out (((Below.refl _ _).alloc (Nat.le_refl _) _).alloc (by simp) _)
          have HEP : ∀ o1 o2, Hid (EDecl ((w2.alloc o1).alloc o2) [.string dn, .string dv, .bool di] ⟨dn, dv, di⟩ (iv wr ((w2.alloc o1).alloc o2))) := fun o1 o2 => rfl
          go_wp2_with (at_builtin; (refine wp_rw EDecl.kept Tryz.underlying30 Tryz.info36 rfl (by decide) (by decide) wr _ rfl _ _ rfl w1.heap.size _ els rfl HR.out (HNA _ _).out (Below.size HW.out) _ rfl ⟨dn, dv, di⟩ [.string dn, .string dv, .bool di] ?c1 rfl ?c2 (HEP _ _).out HL12.out ?_))
          case c1 =>
            intro j y hj
            rcases (show j = 0 ∨ j = 1 ∨ j = 2 ∨ 3 ≤ j by omega) with rfl | rfl | rfl | h
            · simp at hj; subst hj; simp
            · simp at hj; subst hj; simp
            · simp at hj; subst hj; simp
            · rw [List.getElem?_eq_none (by simpa using h)] at hj; cases hj
          case c2 =>
            intro y hy
            simp only [List.mem_cons, List.not_mem_nil, or_false] at hy
            rcases hy with rfl | rfl | rfl <;> rfl
          intro v' w' h1 h2
          have HN : Hid (Nw w1 w') := Below.trans (HW.out.trans (HNA _ _).out) (Ext.below h2 (fun g e => (HR.out.lt g e).1) (Nat.le_trans (Below.size HW.out) (Below.size (HNA _ _).out)))
          have H1 : Hid _ := h1
          clear h1 h2
          go_wp2
          go_roundw
          case rel => exact ⟨k + 1, _, by omega, by go_num, H1.out, by rw [HX.out, List.map_append, HM.out]; rfl, HN.out⟩
          case measure => simp [intOf]; omega
      · have HX : Hid (dcs (ps.take (k + 1)) = dcs (ps.take k)) := by show _ = _; rw [HTK.out]; exact dcs_none hp
        have HR2 : ∀ o, Hid (RowO 36 3 EDecl (w2.alloc o) w1.heap.size (.slice va els.length vc) els) := fun o => (HR.out.nw EDecl.kept k2).nw EDecl.kept ((Below.refl _ _).alloc (Nat.le_refl _) _)
        have HN2 : ∀ o, Hid (Nw w1 (w2.alloc o)) := fun o => Nw.trans (Nw.trans HW.out k2) ((Below.refl _ _).alloc (Nat.le_refl _) _)
        clear k2 q0 hp
        go_wp2
        go_roundw
        case rel => exact ⟨k + 1, els, by omega, by go_num, (HR2 _).out, by rw [HX.out]; exact HM.out, (HN2 _).out⟩
        case measure => simp [intOf]; omega
    · have hk2 : k = ps.length := by omega
      have HE : Hid (els.map El.x = dcs ps) := by show _ = _; rw [HM.out, hk2, List.take_length]
      have hkn : ¬ ((k : Int) < (ps.length : Int)) := by omega
      clear hk2 hw
      go_wp2
      go_ret
      refine ⟨⟨_, rfl, ?_⟩, Nw.trans HN1.out HW.out⟩
      rw [← HE.out]
      exact RowO.row HR.out (fun b h1 h2 => ⟨Nat.le_trans (Below.size HN1.out) h1, h2⟩)
end Go.Proofs.YtnkmdmmlpidcmaaGreatDoor
