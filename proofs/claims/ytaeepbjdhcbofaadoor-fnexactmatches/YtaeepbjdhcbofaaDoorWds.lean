/-
  The words of a text, as the specification tells them; each theorem names its conditions.
-/
import Derived.Test.YtaeepbjdhcbofaaDoorTxs
import Derived.Test.YtaeepbjdhcbofaaDoorLet
import Derived.Test.YtaeepbjdhcbofaaDoorFlds
namespace Go.Proofs.YtaeepbjdhcbofaaDoor
open Go.ChangeShapes Go.WideShapes Go.ChangeAt Go.RowKit
set_option linter.unusedVariables false

theorem sblank (w : World) (x : Nat) (h : x ≤ 255) : Calls Tryd.prog 68 #[.int .u8 (x : Int)] w fun e w' => e = .returned (.bool (blankN x)) ∧ w' = w := by
  go_enter Tryd.func68, Tryd.ntmps68
  go_wp2
  all_goals
    go_ret
    exact ⟨ret_bool (by rw [Bool.eq_iff_iff]; simp [blankN]; omega), rfl⟩
/-- The word that is open. -/
def opnT (s : ByteArray) (st : Option Nat) (pos : Nat) : ByteArray := match st with | some a => s.extract a pos | none => ⟨#[]⟩
def cutT (s : ByteArray) (acc : List (Nat × Nat)) : List ByteArray := acc.map fun x => s.extract x.1 x.2
theorem cutT_snoc (s : ByteArray) (acc : List (Nat × Nat)) (a b : Nat) : cutT s (acc ++ [(a, b)]) = cutT s acc ++ [s.extract a b] := by simp [cutT]
theorem cutT_len (s : ByteArray) (acc : List (Nat × Nat)) : (cutT s acc).length = acc.length := by simp [cutT]
structure WdSt (s : ByteArray) (pos : Nat) (st : Option Nat) (acc : List (Nat × Nat)) : Prop where
  le : pos ≤ s.size
  open_ : ∀ a, st = some a → a < pos
  len : acc.length ≤ pos
  rest : spB s (s.size - pos) pos st acc = spB s s.size 0 none []
theorem WdSt.start (s : ByteArray) : WdSt s 0 none [] := ⟨Nat.zero_le _, (fun a h => by cases h), Nat.zero_le _, rfl⟩
theorem WdSt.word_none {s : ByteArray} {pos : Nat} {acc : List (Nat × Nat)} (h : WdSt s pos none acc) (hlt : pos < s.size) (hb : blankN (byN s pos) = false) : WdSt s (pos + 1) (some pos) acc := by
  refine ⟨hlt, fun a e => by injection e; omega, by have := h.len; omega, ?_⟩
  rw [← h.rest, show s.size - pos = (s.size - (pos + 1)) + 1 by omega, spB_word_none s _ _ _ hlt hb]
theorem WdSt.word_some {s : ByteArray} {pos a : Nat} {acc : List (Nat × Nat)} (h : WdSt s pos (some a) acc) (hlt : pos < s.size) (hb : blankN (byN s pos) = false) : WdSt s (pos + 1) (some a) acc := by
  refine ⟨hlt, fun b e => by have := h.open_ b e; omega, by have := h.len; omega, ?_⟩
  rw [← h.rest, show s.size - pos = (s.size - (pos + 1)) + 1 by omega, spB_word_some s _ _ _ _ hlt hb]
theorem WdSt.blank_none {s : ByteArray} {pos : Nat} {acc : List (Nat × Nat)} (h : WdSt s pos none acc) (hlt : pos < s.size) (hb : blankN (byN s pos) = true) : WdSt s (pos + 1) none acc := by
  refine ⟨hlt, (fun a e => by cases e), by have := h.len; omega, ?_⟩
  rw [← h.rest, show s.size - pos = (s.size - (pos + 1)) + 1 by omega, spB_blank_none s _ _ _ hlt hb]
theorem WdSt.blank_some {s : ByteArray} {pos a : Nat} {acc : List (Nat × Nat)} (h : WdSt s pos (some a) acc) (hlt : pos < s.size) (hb : blankN (byN s pos) = true) : WdSt s (pos + 1) none (acc ++ [(a, pos)]) := by
  refine ⟨hlt, (fun a e => by cases e), by have := h.len; simp; omega, ?_⟩
  rw [← h.rest, show s.size - pos = (s.size - (pos + 1)) + 1 by omega, spB_blank_some s _ _ _ _ hlt hb]
theorem WdSt.end_none {s : ByteArray} {pos : Nat} {acc : List (Nat × Nat)} (h : WdSt s pos none acc) (hlt : ¬ pos < s.size) : wordsOf s = cutT s acc := by
  unfold wordsOf cutT
  rw [← h.rest, spB_end _ _ _ _ _ hlt]; rfl
theorem WdSt.end_some {s : ByteArray} {pos a : Nat} {acc : List (Nat × Nat)} (h : WdSt s pos (some a) acc) (hlt : ¬ pos < s.size) : wordsOf s = cutT s acc ++ [s.extract a pos] := by
  have e : pos = s.size := by have := h.le; omega
  unfold wordsOf cutT
  rw [← h.rest, spB_end _ _ _ _ _ hlt, e]
  simp [Lib.closeSpans]
set_option maxHeartbeats 4000000 in
theorem swords (w : World) (s : ByteArray) (hs : s.size ≤ 1048576) :
    Calls Tryd.prog 52 #[.string s] w fun e w' => ∃ v, e = .returned v ∧ Txs w' w.heap.size v (wordsOf s) ∧ Nw w w' := by
  go_enter Tryd.func52, Tryd.ntmps52
  go_wp2
  go_loopw [3, 4, 5] (fun v x i wr => Nw w wr ∧ ((∃ pos st acc, i = .int .i64 (pos : Nat) ∧ x = .string (opnT s st pos) ∧ WdSt s pos st acc ∧ Txs wr w.heap.size v (cutT s acc)) ∨ (i = .int .i64 ((s.size + 1 : Nat) : Int) ∧ Txs wr w.heap.size v (wordsOf s)))) (fun _ _ i _ => s.size + 2 - (intOf i).toNat)
  case atStart => exact ⟨Below.refl _ _, Or.inl ⟨0, none, [], rfl, rfl, WdSt.start s, Txs.nil _ _⟩⟩
  case round =>
    obtain ⟨hw, ⟨pos, st, acc, rfl, rfl, hst, hv⟩ | ⟨rfl, hv⟩⟩ := hrel
    · have HW : Hid (Nw w wr) := hw
      have HV : Hid (Txs wr w.heap.size _ (cutT s acc)) := hv
      have hpos := hst.le
      have hlen := hst.len
      have hcl : (cutT s acc).length ≤ 10000000 := by rw [cutT_len]; omega
      have HB : ∀ o1, Hid (Nw wr (wr.alloc o1)) := fun o1 => (Below.refl _ _).alloc (Nat.le_refl _) _
      have hBs : ∀ o1, Hid (w.heap.size ≤ (wr.alloc o1).heap.size) := fun o1 => Nat.le_trans (Below.size hw) (Below.size (HB o1).out)
      clear hw hv
      by_cases hlt : pos < s.size
      · have hby := byN_of s pos hlt
        have h255 : s[pos].toNat ≤ 255 := by have := UInt8.toNat_lt s[pos]; omega
        cases hb : blankN (byN s pos)
        · have hb' : blankN s[pos].toNat = false := by rw [← hby]; exact hb
          cases st with
          | none =>
            have HS : Hid (WdSt s (pos + 1) (some pos) acc) := hst.word_none hlt hb
            have HE : Hid ((⟨#[]⟩ : ByteArray) ++ s.extract pos (pos + 1) = s.extract pos (pos + 1)) := by show _ = _; exact ByteArray.empty_append
            have he0 : opnT s none pos = ⟨#[]⟩ := rfl
            rw [he0]
            clear hst hb hby
            have hsz : (s.extract pos (pos + 1)).size ≤ 1048576 := by rw [ByteArray.size_extract]; omega
            go_wp2_with (go_at_call 68; refine (sblank _ _ h255).mono ?_; rw [hb']; rintro e w' ⟨rfl, hq⟩; have hq2 := hq.symm; clear hq; subst hq2)
            go_roundw
            case rel => exact ⟨HW.out, Or.inl ⟨pos + 1, some pos, acc, by go_num, by first | rfl | (rw [HE.out]; rfl), HS.out, HV.out⟩⟩
            case measure => simp [intOf]; try omega
          | some a =>
            have ha := hst.open_ a rfl
            have HS : Hid (WdSt s (pos + 1) (some a) acc) := hst.word_some hlt hb
            have HE : Hid (s.extract a pos ++ s.extract pos (pos + 1) = s.extract a (pos + 1)) := by show _ = _; exact (ByteArray.extract_eq_extract_append_extract pos (by omega) (by omega)).symm
            have he0 : opnT s (some a) pos = s.extract a pos := rfl
            rw [he0]
            clear hst hb hby
            have hsz : (s.extract pos (pos + 1)).size ≤ 1048576 := by rw [ByteArray.size_extract]; omega
            have hsz2 : (s.extract a pos).size ≤ 1048576 := by rw [ByteArray.size_extract]; omega
            generalize hX : s.extract a pos = X at *
            go_wp2_with (go_at_call 68; refine (sblank _ _ h255).mono ?_; rw [hb']; rintro e w' ⟨rfl, hq⟩; have hq2 := hq.symm; clear hq; subst hq2)
            go_roundw
            case rel => exact ⟨HW.out, Or.inl ⟨pos + 1, some a, acc, by go_num, by rw [HE.out]; rfl, HS.out, HV.out⟩⟩
            case measure => simp [intOf]; try omega
        · have hb' : blankN s[pos].toNat = true := by rw [← hby]; exact hb
          cases st with
          | none =>
            have HS : Hid (WdSt s (pos + 1) none acc) := hst.blank_none hlt hb
            have he0 : opnT s none pos = ⟨#[]⟩ := rfl
            rw [he0]
            clear hst hb hby
            go_wp2_with (go_at_call 68; refine (sblank _ _ h255).mono ?_; rw [hb']; rintro e w' ⟨rfl, hq⟩; have hq2 := hq.symm; clear hq; subst hq2)
            go_roundw
            case rel => exact ⟨HW.out, Or.inl ⟨pos + 1, none, acc, by go_num, rfl, HS.out, HV.out⟩⟩
            case measure => simp [intOf]; try omega
          | some a =>
            have ha := hst.open_ a rfl
            have HS : Hid (WdSt s (pos + 1) none (acc ++ [(a, pos)])) := hst.blank_some hlt hb
            have he0 : opnT s (some a) pos = s.extract a pos := rfl
            rw [he0]
            have hsz2 : 0 < (s.extract a pos).size := by rw [ByteArray.size_extract]; omega
            have n1 := ne_nil hsz2
            have n2 := ne_emp hsz2
            have HC : Hid (cutT s (acc ++ [(a, pos)]) = cutT s acc ++ [s.extract a pos]) := cutT_snoc s acc a pos
            clear hst hb hby hsz2
            generalize s.extract a pos = X at *
            go_wp2_with (first | (go_at_call 68; refine (sblank _ _ h255).mono ?_; rw [hb']; rintro e w' ⟨rfl, hq⟩; have hq2 := hq.symm; clear hq; subst hq2) | (at_builtin; (refine wp_tx _ rfl _ _ rfl w.heap.size _ _ X rfl (HV.out.nw (HB _).out) _ rfl ?c1 hcl ?c3 ?_)))
            case c1 => simp
            case c3 => exact (hBs _).out
            intro v' w' h1 h2
            have HN : Hid (Nw w w') := Below.trans (HW.out.trans (HB _).out) (Txs.below (HV.out.nw (HB _).out) h2 (hBs _).out)
            have H1 : Hid (Txs w' w.heap.size v' (cutT s (acc ++ [(a, pos)]))) := by show Txs _ _ _ _; rw [HC.out]; exact h1
            clear h1 h2
            go_wp2
            go_roundw
            case rel => exact ⟨HN.out, Or.inl ⟨pos + 1, none, _, by go_num, rfl, HS.out, H1.out⟩⟩
            case measure => simp [intOf]; try omega
      · have e : pos = s.size := by omega
        cases st with
        | none =>
          have HE : Hid (wordsOf s = cutT s acc) := hst.end_none hlt
          have he0 : opnT s none pos = ⟨#[]⟩ := rfl
          rw [he0]
          subst e
          clear hst
          go_wp2
          go_roundw
          case rel => exact ⟨HW.out, Or.inr ⟨by go_num, by rw [HE.out]; exact HV.out⟩⟩
          case measure => simp [intOf]; try omega
        | some a =>
          have ha := hst.open_ a rfl
          have HE : Hid (wordsOf s = cutT s acc ++ [s.extract a pos]) := hst.end_some hlt
          have he0 : opnT s (some a) pos = s.extract a pos := rfl
          rw [he0]
          have hsz2 : 0 < (s.extract a pos).size := by rw [ByteArray.size_extract]; omega
          have n1 := ne_nil hsz2
          have n2 := ne_emp hsz2
          clear hst hsz2
          generalize s.extract a pos = X at *
          subst e
          go_wp2_with (at_builtin; (refine wp_tx _ rfl _ _ rfl w.heap.size _ _ X rfl (HV.out.nw (HB _).out) _ rfl ?c1 hcl ?c3 ?_))
          case c1 => simp
          case c3 => exact (hBs _).out
          intro v' w' h1 h2
          have HN : Hid (Nw w w') := Below.trans (HW.out.trans (HB _).out) (Txs.below (HV.out.nw (HB _).out) h2 (hBs _).out)
          have H1 : Hid (Txs w' w.heap.size v' (wordsOf s)) := by show Txs _ _ _ _; rw [HE.out]; exact h1
          clear h1 h2
          go_wp2
          go_roundw
          case rel => exact ⟨HN.out, Or.inr ⟨by go_num, H1.out⟩⟩
          case measure => simp [intOf]; try omega
    · have HW : Hid (Nw w wr) := hw
      have HV : Hid (Txs wr w.heap.size _ (wordsOf s)) := hv
      clear hw hv
      have hgt : ¬ (((s.size + 1 : Nat) : Int) ≤ (s.size : Int)) := by omega
      go_wp2
      go_ret
      exact ⟨_, rfl, HV.out, HW.out⟩
end Go.Proofs.YtaeepbjdhcbofaaDoor
