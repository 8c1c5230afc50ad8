/-
  The text under a node, on lists; and the specification's loops over it; each theorem names its conditions.
-/
import Derived.Test.YtgjnemmkpbkfhaaDoorUnP
namespace Go.Proofs.YtgjnemmkpbkfhaaDoor
open Go.ChangeShapes Go.WideShapes Go.ChangeAt Go.RowKit
set_option linter.unusedVariables false

def textAt (l : List ND) (i : Nat) : ByteArray := (nodeAt l i).text
/-- The text of k and of the first n nodes behind it that are below it. -/
def unT (l : List ND) (k : Nat) : Nat → ByteArray
  | 0 => textAt l k
  | n + 1 => if meetsN l k ((k + 1 + n : Nat) : Int) = true then unT l k n ++ textAt l (k + 1 + n) else unT l k n
theorem unT_yes {l : List ND} {k n : Nat} (h : meetsN l k ((k + 1 + n : Nat) : Int) = true) : unT l k (n + 1) = unT l k n ++ textAt l (k + 1 + n) := by rw [unT, if_pos h]
theorem unT_no {l : List ND} {k n : Nat} (h : meetsN l k ((k + 1 + n : Nat) : Int) = false) : unT l k (n + 1) = unT l k n := by rw [unT, if_neg (by rw [h]; simp)]
theorem unT_rest {l : List ND} (hg : GoodP l) (k n : Nat) (hl : k + 1 + n < l.length) (hup : upAt l (k + 1 + n) < k) : ∀ d, k + 1 + n + d ≤ l.length → unT l k (n + d) = unT l k n := by
  intro d
  induction d with
  | zero => intro _; rfl
  | succ d ih =>
    intro h
    have e : n + (d + 1) = (n + d) + 1 := by omega
    have h2 := under_out hg k (k + 1 + n) (by omega) hl hup d (by omega)
    have e2 : k + 1 + (n + d) = k + 1 + n + d := by omega
    rw [e, unT_no (by rw [e2]; exact h2)]
    exact ih (by omega)
theorem unT_size {l : List ND} (hz : Small l) (k : Nat) : ∀ n, k + n < l.length → (unT l k n).size ≤ 1048576 * n + 1048576 := by
  intro n
  induction n with
  | zero =>
    intro h
    have h1 : (textAt l k).size ≤ 1048576 := (hz k (by omega)).text
    have e : unT l k 0 = textAt l k := rfl
    rw [e]; omega
  | succ n ih =>
    intro h
    have h1 := ih (by omega)
    have h2 : (textAt l (k + 1 + n)).size ≤ 1048576 := (hz (k + 1 + n) (by omega)).text
    rw [unT]
    split
    · rw [ByteArray.size_append]
      omega
    · omega
/-- What TextUnder answers. -/
def underOk (l : List ND) (k : Int) : Bool := goodB l && decide (0 ≤ k ∧ k < l.length)
def underS (l : List ND) (k : Int) : ByteArray := if underOk l k then unT l k.toNat (l.length - k.toNat - 1) else ⟨#[]⟩
def underV (l : List ND) (k : Int) : Value := .tuple #[.string (underS l k), .bool (underOk l k)]
theorem underV_no {l : List ND} {k : Int} (h : underOk l k = false) : underV l k = .tuple #[.string ⟨#[]⟩, .bool false] := by unfold underV underS; rw [h]; rfl
theorem underV_yes {l : List ND} {k : Nat} (h : underOk l k = true) : underV l k = .tuple #[.string (unT l k (l.length - k - 1)), .bool true] := by unfold underV underS; rw [h]; rfl

set_option maxHeartbeats 4000000 in
theorem sunder (w : World) (a : Option Addr) (c : Nat) (l : List ND) (k : Nat) (hk : k < l.length) (hl : l.length ≤ 60) (hg : GoodP l) (hz : Small l) (hr : Nodes w a l) :
    Calls Tryd.prog 45 #[.slice a l.length c, .int .i64 k] w fun e w' => e = .returned (.string (unT l k (l.length - k - 1))) ∧ w' = w := by
  have hu := ups_of l l.length (Nat.le_refl _) hg.2
  rcases hr with h | ⟨b, o, rfl, hb, hc⟩
  · rw [h] at hk; simp at hk
  have q3 : w.cell? ⟨b, o + k * 4 + 3, none⟩ = some (.string (textAt l k)) := (hc k hk).2.2.2
  have HC : Hid (∀ i, i < l.length → w.cell? ⟨b, o + i * 4 + 1, none⟩ = some (.int .i64 (upAt l i)) ∧ w.cell? ⟨b, o + i * 4 + 3, none⟩ = some (.string (textAt l i))) := fun i hi => ⟨(hc i hi).2.1, (hc i hi).2.2.2⟩
  have HU : Hid (Ups l l.length) := hu
  have HZ : Hid (Small l) := hz
  have HB : Hid (b < w.heap.size) := hb
  clear hc hu hz hg hb
  go_enter Tryd.func45, Tryd.ntmps45
  go_wp2
  go_loop [5, 6] (fun x i => ∃ n : Nat, k + n < l.length ∧ i = .int .i64 ((k + 1 + n : Nat) : Int) ∧ x = .string (unT l k n)) (fun _ i => l.length - (intOf i).toNat)
  case atStart => exact ⟨0, by omega, by go_num, rfl⟩
  case round =>
    obtain ⟨n, hn, rfl, rfl⟩ := hrel
    clear q3
    by_cases hlt : k + 1 + n < l.length
    · have y1 := unT_size HZ.out k n hn
      have y2 : (textAt l (k + 1 + n)).size ≤ 1048576 := (HZ.out (k + 1 + n) hlt).text
      have y3 : (unT l k n).size ≤ 100000000 := by omega
      have hlt' : ((k + 1 + n : Nat) : Int) < l.length := by omega
      have q3 := (HC.out (k + 1 + n) hlt).2
      clear y1
      have HY : Hid (∀ h : Bool, meetsN l k ((k + 1 + n : Nat) : Int) = h → unT l k (n + 1) = if h = true then unT l k n ++ textAt l (k + 1 + n) else unT l k n) := fun h e => by
        subst e; rfl
      generalize hI : k + 1 + n = I at *
      go_wp2
      go_loop [7] (fun x => ∃ at' : Int, x = .int .i64 at' ∧ -1 ≤ at' ∧ at' ≤ I ∧ meetsN l k at' = meetsN l k (I : Int)) (fun x => (intOf x + 1).toNat)
      case atStart => exact ⟨(I : Int), rfl, by omega, by omega, rfl⟩
      case round =>
        obtain ⟨t, rfl, t0, t1, hme⟩ := hrel
        have HM : Hid (meetsN l k t = meetsN l k (I : Int)) := hme
        clear hme
        by_cases hgt : (k : Int) < t
        · obtain ⟨T, rfl⟩ : ∃ T : Nat, t = T := ⟨t.toNat, by omega⟩
          have p1 := (HC.out T (by omega)).1
          have hup := HU.out T (by omega)
          have HQ : Hid (meetsN l k (upAt l T) = meetsN l k (I : Int)) := by
            show _ = _
            rw [← HM.out, meetsN_up l k T l.length HU.out (Nat.le_refl _) (by omega) (by omega) (by omega)]
            simp
          have hTl : (T : Int) < l.length := by omega
          generalize upAt l T = U at *
          go_wp2
          go_round
          case rel => exact ⟨U, rfl, by omega, by omega, HQ.out⟩
          case measure => simp [intOf]; omega
        · by_cases he : t = k
          · subst he
            have HT : Hid (unT l k (n + 1) = unT l k n ++ textAt l I) := by
              show _ = _
              rw [HY.out true (by rw [← HM.out]; exact meetsN_same l k (by omega)), if_pos rfl]
            go_wp2
            go_round
            case rel => exact ⟨n + 1, by omega, by go_num, by rw [HT.out]⟩
            case measure => simp [intOf]; omega
          · have HT : Hid (unT l k (n + 1) = unT l k n) := by
              show _ = _
              rw [HY.out false (by rw [← HM.out]; exact meetsN_small l l.length HU.out (Nat.le_refl _) _ _ (by omega) (by omega) (by omega)), if_neg (by simp)]
            have hne : (t == (k : Int)) = false := beq_eq_false_iff_ne.2 he
            go_wp2
            go_round
            case rel => exact ⟨n + 1, by omega, by go_num, by rw [HT.out]⟩
            case measure => simp [intOf]; omega
    · have e : n = l.length - k - 1 := by omega
      have hlt' : ¬ ((k + 1 + n : Nat) : Int) < l.length := by omega
      subst e
      go_wp2
      go_ret
      exact ⟨rfl, rfl⟩
set_option maxHeartbeats 1000000 in
theorem stextUnder (w : World) (a : Option Addr) (c : Nat) (l : List ND) (k : Int) (hk : -9223372036854775808 ≤ k ∧ k ≤ 9223372036854775807) (hl : l.length ≤ 1048576) (hz : Small l) (hr : Nodes w a l) (hgood : ∀ w : World, Nodes w a l → Calls Tryd.prog 35 #[.slice a l.length c] w fun e w' => e = .returned (.bool (goodB l)) ∧ Nw w w') :
    Calls Tryd.prog 14 #[.slice a l.length c, .int .i64 k] w fun e w' => e = .returned (underV l k) ∧ Nw w w' := by
  have HR : Hid (Nodes w a l) := hr
  have HZ : Hid (Small l) := hz
  have HG : Hid (∀ w : World, Nodes w a l → Calls Tryd.prog 35 #[.slice a l.length c] w fun e w' => e = .returned (.bool (goodB l)) ∧ Nw w w') := hgood
  clear hr hz hgood
  by_cases hg : goodB l = true
  · by_cases hin : 0 ≤ k ∧ k < l.length
    · obtain ⟨K, rfl⟩ : ∃ K : Nat, k = K := ⟨k.toNat, by omega⟩
      have HO : Hid (underV l K = .tuple #[.string (unT l K (l.length - K - 1)), .bool true]) := underV_yes (by unfold underOk; rw [hg]; simp; omega)
      have HP : Hid (GoodP l) := (goodB_iff l).1 hg
      have hd : decide ((0 : Int) ≤ (K : Int) ∧ (K : Int) ≤ (l.length : Int) - 1) = true := by simp; omega
      go_enter Tryd.func14, Tryd.ntmps14
      go_wp2_with (first | (go_at_call 35; refine Calls.mono (HG.out _ HR.out) ?_; rw [hg]; rintro e w1 ⟨rfl, k1⟩) | (go_at_call 44; refine (in_any _ _ _ _).mono ?_; rw [hd]; rintro e w' ⟨rfl, hq⟩; have hq2 := hq.symm; clear hq; subst hq2) | (go_at_call 45; refine Calls.mono (sunder _ _ _ l K (by omega) HP.out.1.2 HP.out HZ.out (HR.out.nw k1)) ?_; rintro e w' ⟨rfl, hq⟩; have hq2 := hq.symm; clear hq; subst hq2))
      go_ret2
      exact ⟨by rw [HO.out]; rfl, k1⟩
    · have HO : Hid (underV l k = .tuple #[.string ⟨#[]⟩, .bool false]) := underV_no (by unfold underOk; rw [hg, decide_eq_false hin]; rfl)
      have hd : decide ((0 : Int) ≤ k ∧ k ≤ (l.length : Int) - 1) = false := decide_eq_false (by omega)
      clear hin
      go_enter Tryd.func14, Tryd.ntmps14
      go_wp2_with (first | (go_at_call 35; refine Calls.mono (HG.out _ HR.out) ?_; rw [hg]; rintro e w1 ⟨rfl, k1⟩) | (go_at_call 44; refine (in_any _ _ _ _).mono ?_; rw [hd]; rintro e w' ⟨rfl, hq⟩; have hq2 := hq.symm; clear hq; subst hq2))
      go_ret2
      exact ⟨by rw [HO.out]; rfl, k1⟩
  · have hg' : goodB l = false := by simpa using hg
    have HO : Hid (underV l k = .tuple #[.string ⟨#[]⟩, .bool false]) := underV_no (by unfold underOk; rw [hg']; rfl)
    go_enter Tryd.func14, Tryd.ntmps14
    go_wp2_with (go_at_call 35; refine Calls.mono (HG.out _ HR.out) ?_; rw [hg']; rintro e w1 ⟨rfl, k1⟩)
    go_ret2
    exact ⟨by rw [HO.out]; rfl, k1⟩
end Go.Proofs.YtgjnemmkpbkfhaaDoor
