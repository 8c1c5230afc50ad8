/-
  The text under a node, on lists; and the specification's loops over it; each theorem names its conditions.
-/
import Derived.Test.YtegjcllfjndkhaaDoorMkGood
namespace Go.Proofs.YtegjcllfjndkhaaDoor
open Go.ChangeShapes Go.WideShapes Go.ChangeAt Go.RowKit
set_option linter.unusedVariables false

theorem meetsN_trans (l : List ND) (n : Nat) (hu : Ups l n) (hn : n ≤ l.length) (x u : Int) : ∀ (f : Nat) (k : Int), k < f → k < n → meetsN l u k = true → meetsN l x u = true → meetsN l x k = true := by
  intro f
  induction f with
  | zero => intro k h _ hm _; rw [meetsN_neg l u k (by omega)] at hm; simp at hm
  | succ f ih =>
    intro k h hk hm hx
    by_cases c : k < 0
    · rw [meetsN_neg l u k c] at hm; simp at hm
    · by_cases e : k = u
      · rw [e]; exact hx
      · have hh := hu k.toNat (by omega)
        rw [meetsN_up l u k n hu hn (by omega) hk e] at hm
        have h2 := ih _ (by omega) (by omega) hm hx
        by_cases e2 : k = x
        · rw [e2]; exact meetsN_same l x (by omega)
        · rw [meetsN_up l x k n hu hn (by omega) hk e2]; exact h2
theorem meetsN_small (l : List ND) (n : Nat) (hu : Ups l n) (hn : n ≤ l.length) (x k : Int) (h1 : k < x) (hk : k < n) (h0 : 0 ≤ x) : meetsN l x k = false := by
  cases h : meetsN l x k with
  | false => rfl
  | true =>
    have := meetsN_le l x n hu hn (k.toNat + 1) k (by omega) hk h
    omega
/-- The nodes behind k whose ups have all been k or more are below k. -/
theorem under_in (l : List ND) (n : Nat) (hu : Ups l n) (hn : n ≤ l.length) (k : Nat) : ∀ (m i : Nat), i < m → k < i → i < n → (∀ j, k < j → j ≤ i → (k : Int) ≤ upAt l j) → meetsN l k i = true := by
  intro m
  induction m with
  | zero => intro i h; omega
  | succ m ih =>
    intro i hm hk hi hj
    have h1 := hj i hk (Nat.le_refl _)
    have h2 := hu i hi
    rw [meetsN_up l k i n hu hn (by omega) (by omega) (by omega)]
    have e : ((i : Int)).toNat = i := by omega
    rw [e]
    by_cases c : upAt l i = k
    · rw [c]; exact meetsN_same l k (by omega)
    · have e2 : upAt l i = ((upAt l i).toNat : Int) := by omega
      rw [e2]
      exact ih _ (by omega) (by omega) (by omega) fun j h3 h4 => hj j h3 (by omega)
/-- From the first node on whose up is less, none is below k. -/
theorem under_out {l : List ND} (hg : GoodP l) (k i0 : Nat) (h0 : k < i0) (hl : i0 < l.length) (hup : upAt l i0 < k) : ∀ d, i0 + d < l.length → meetsN l k ((i0 + d : Nat) : Int) = false := by
  have hu := ups_of l l.length (Nat.le_refl _) hg.2
  intro d
  induction d with
  | zero =>
    intro _
    have h2 := hu i0 hl
    rw [meetsN_up l k _ l.length hu (Nat.le_refl _) (by omega) (by omega) (by omega)]
    have e : (((i0 + 0 : Nat) : Int)).toNat = i0 := by omega
    rw [e]
    exact meetsN_small l l.length hu (Nat.le_refl _) _ _ hup (by omega) (by omega)
  | succ d ih =>
    intro hlt
    have ih := ih (by omega)
    have h2 := hu (i0 + (d + 1)) hlt
    cases h : meetsN l k ((i0 + (d + 1) : Nat) : Int) with
    | false => rfl
    | true =>
      rw [meetsN_up l k _ l.length hu (Nat.le_refl _) (by omega) (by omega) (by omega)] at h
      have e : (((i0 + (d + 1) : Nat) : Int)).toNat = i0 + d + 1 := by omega
      rw [e] at h
      have hok := hg.2 (i0 + d + 1) (by omega)
      simp only [okB, Bool.and_eq_true] at hok
      have hp := hok.2
      unfold placeB at hp
      simp only [Bool.and_eq_true] at hp
      have := meetsN_trans l l.length hu (Nat.le_refl _) k (upAt l (i0 + d + 1)) (i0 + d + 1) ((i0 + d : Nat) : Int) (by omega) (by omega) hp.1 h
      rw [ih] at this; cases this

def textAt (l : List ND) (i : Nat) : ByteArray := (nodeAt l i).text
/-- The text of k and of the first n nodes behind it that are below it. -/
def unT (l : List ND) (k : Nat) : Nat → ByteArray
  | 0 => textAt l k
  | n + 1 => if meetsN l k ((k + 1 + n : Nat) : Int) = true then unT l k n ++ textAt l (k + 1 + n) else unT l k n
theorem unT_yes {l : List ND} {k n : Nat} (h : meetsN l k ((k + 1 + n : Nat) : Int) = true) : unT l k (n + 1) = unT l k n ++ textAt l (k + 1 + n) := by rw [unT, if_pos h]
theorem unT_no {l : List ND} {k n : Nat} (h : meetsN l k ((k + 1 + n : Nat) : Int) = false) : unT l k (n + 1) = unT l k n := by rw [unT, if_neg (by rw [h]; simp)]
theorem unT_rest {l : List ND} (hg : GoodP l) (k n : Nat) (hl : k + 1 + n < l.length) (hup : upAt l (k + 1 + n) < k) : ∀ d, k + 1 + n + d ≤ l.length → unT l k (n + d) = unT l k n := by
  intro d
  induction d with
  | zero => intro _; rfl
  | succ d ih =>
    intro h
    have e : n + (d + 1) = (n + d) + 1 := by omega
    have h2 := under_out hg k (k + 1 + n) (by omega) hl hup d (by omega)
    have e2 : k + 1 + (n + d) = k + 1 + n + d := by omega
    rw [e, unT_no (by rw [e2]; exact h2)]
    exact ih (by omega)
theorem unT_size {l : List ND} (hz : Small l) (k : Nat) : ∀ n, k + n < l.length → (unT l k n).size ≤ 1048576 * n + 1048576 := by
  intro n
  induction n with
  | zero =>
    intro h
    have h1 : (textAt l k).size ≤ 1048576 := (hz k (by omega)).text
    have e : unT l k 0 = textAt l k := rfl
    rw [e]; omega
  | succ n ih =>
    intro h
    have h1 := ih (by omega)
    have h2 : (textAt l (k + 1 + n)).size ≤ 1048576 := (hz (k + 1 + n) (by omega)).text
    rw [unT]
    split
    · rw [ByteArray.size_append]
      omega
    · omega
/-- What TextUnder answers. -/
def underOk (l : List ND) (k : Int) : Bool := goodB l && decide (0 ≤ k ∧ k < l.length)
def underS (l : List ND) (k : Int) : ByteArray := if underOk l k then unT l k.toNat (l.length - k.toNat - 1) else ⟨#[]⟩
def underV (l : List ND) (k : Int) : Value := .tuple #[.string (underS l k), .bool (underOk l k)]
theorem underV_no {l : List ND} {k : Int} (h : underOk l k = false) : underV l k = .tuple #[.string ⟨#[]⟩, .bool false] := by unfold underV underS; rw [h]; rfl
theorem underV_yes {l : List ND} {k : Nat} (h : underOk l k = true) : underV l k = .tuple #[.string (unT l k (l.length - k - 1)), .bool true] := by unfold underV underS; rw [h]; rfl

set_option maxHeartbeats 4000000 in
theorem sunder (w : World) (a : Option Addr) (c : Nat) (l : List ND) (k : Nat) (hk : k < l.length) (hl : l.length ≤ 60) (hg : GoodP l) (hz : Small l) (hr : Nodes w a l) :
    Calls Tryd.prog 41 #[.slice a l.length c, .int .i64 k] w fun e w' => e = .returned (.string (unT l k (l.length - k - 1))) ∧ w' = w := by
  have hu := ups_of l l.length (Nat.le_refl _) hg.2
  rcases hr with h | ⟨b, o, rfl, hb, hc⟩
  · rw [h] at hk; simp at hk
  have q3 : w.cell? ⟨b, o + k * 4 + 3, none⟩ = some (.string (textAt l k)) := (hc k hk).2.2.2
  have HC : Hid (∀ i, i < l.length → w.cell? ⟨b, o + i * 4 + 1, none⟩ = some (.int .i64 (upAt l i)) ∧ w.cell? ⟨b, o + i * 4 + 3, none⟩ = some (.string (textAt l i))) := fun i hi => ⟨(hc i hi).2.1, (hc i hi).2.2.2⟩
  have HU : Hid (Ups l l.length) := hu
  have HZ : Hid (Small l) := hz
  have HB : Hid (b < w.heap.size) := hb
  clear hc hu hz hg hb
  go_enter Tryd.func41, Tryd.ntmps41
  go_wp2
  go_loop [5, 6] (fun x i => ∃ n : Nat, k + n < l.length ∧ i = .int .i64 ((k + 1 + n : Nat) : Int) ∧ x = .string (unT l k n)) (fun _ i => l.length - (intOf i).toNat)
  case atStart => exact ⟨0, by omega, by go_num, rfl⟩
  case round =>
    obtain ⟨n, hn, rfl, rfl⟩ := hrel
    clear q3
    by_cases hlt : k + 1 + n < l.length
    · have y1 := unT_size HZ.out k n hn
      have y2 : (textAt l (k + 1 + n)).size ≤ 1048576 := (HZ.out (k + 1 + n) hlt).text
      have y3 : (unT l k n).size ≤ 100000000 := by omega
      have hlt' : ((k + 1 + n : Nat) : Int) < l.length := by omega
      have q3 := (HC.out (k + 1 + n) hlt).2
      clear y1
      have HY : Hid (∀ h : Bool, meetsN l k ((k + 1 + n : Nat) : Int) = h → unT l k (n + 1) = if h = true then unT l k n ++ textAt l (k + 1 + n) else unT l k n) := fun h e => by
        subst e; rfl
      generalize hI : k + 1 + n = I at *
      go_wp2
      go_loop [7] (fun x => ∃ at' : Int, x = .int .i64 at' ∧ -1 ≤ at' ∧ at' ≤ I ∧ meetsN l k at' = meetsN l k (I : Int)) (fun x => (intOf x + 1).toNat)
      case atStart => exact ⟨(I : Int), rfl, by omega, by omega, rfl⟩
      case round =>
        obtain ⟨t, rfl, t0, t1, hme⟩ := hrel
        have HM : Hid (meetsN l k t = meetsN l k (I : Int)) := hme
        clear hme
        by_cases hgt : (k : Int) < t
        · obtain ⟨T, rfl⟩ : ∃ T : Nat, t = T := ⟨t.toNat, by omega⟩
          have p1 := (HC.out T (by omega)).1
          have hup := HU.out T (by omega)
          have HQ : Hid (meetsN l k (upAt l T) = meetsN l k (I : Int)) := by
            show _ = _
            rw [← HM.out, meetsN_up l k T l.length HU.out (Nat.le_refl _) (by omega) (by omega) (by omega)]
            simp
          have hTl : (T : Int) < l.length := by omega
          generalize upAt l T = U at *
          go_wp2
          go_round
          case rel => exact ⟨U, rfl, by omega, by omega, HQ.out⟩
          case measure => simp [intOf]; omega
        · by_cases he : t = k
          · subst he
            have HT : Hid (unT l k (n + 1) = unT l k n ++ textAt l I) := by
              show _ = _
              rw [HY.out true (by rw [← HM.out]; exact meetsN_same l k (by omega)), if_pos rfl]
            go_wp2
            go_round
            case rel => exact ⟨n + 1, by omega, by go_num, by rw [HT.out]⟩
            case measure => simp [intOf]; omega
          · have HT : Hid (unT l k (n + 1) = unT l k n) := by
              show _ = _
              rw [HY.out false (by rw [← HM.out]; exact meetsN_small l l.length HU.out (Nat.le_refl _) _ _ (by omega) (by omega) (by omega)), if_neg (by simp)]
            have hne : (t == (k : Int)) = false := beq_eq_false_iff_ne.2 he
            go_wp2
            go_round
            case rel => exact ⟨n + 1, by omega, by go_num, by rw [HT.out]⟩
            case measure => simp [intOf]; omega
    · have e : n = l.length - k - 1 := by omega
      have hlt' : ¬ ((k + 1 + n : Nat) : Int) < l.length := by omega
      subst e
      go_wp2
      go_ret
      exact ⟨rfl, rfl⟩
set_option maxHeartbeats 1000000 in
theorem stextUnder (w : World) (a : Option Addr) (c : Nat) (l : List ND) (k : Int) (hk : -9223372036854775808 ≤ k ∧ k ≤ 9223372036854775807) (hl : l.length ≤ 1048576) (hz : Small l) (hr : Nodes w a l) (hgood : ∀ w : World, Nodes w a l → Calls Tryd.prog 31 #[.slice a l.length c] w fun e w' => e = .returned (.bool (goodB l)) ∧ Nw w w') :
    Calls Tryd.prog 13 #[.slice a l.length c, .int .i64 k] w fun e w' => e = .returned (underV l k) ∧ Nw w w' := by
  have HR : Hid (Nodes w a l) := hr
  have HZ : Hid (Small l) := hz
  have HG : Hid (∀ w : World, Nodes w a l → Calls Tryd.prog 31 #[.slice a l.length c] w fun e w' => e = .returned (.bool (goodB l)) ∧ Nw w w') := hgood
  clear hr hz hgood
  by_cases hg : goodB l = true
  · by_cases hin : 0 ≤ k ∧ k < l.length
    · obtain ⟨K, rfl⟩ : ∃ K : Nat, k = K := ⟨k.toNat, by omega⟩
      have HO : Hid (underV l K = .tuple #[.string (unT l K (l.length - K - 1)), .bool true]) := underV_yes (by unfold underOk; rw [hg]; simp; omega)
      have HP : Hid (GoodP l) := (goodB_iff l).1 hg
      have hd : decide ((0 : Int) ≤ (K : Int) ∧ (K : Int) ≤ (l.length : Int) - 1) = true := by simp; omega
      go_enter Tryd.func13, Tryd.ntmps13
      go_wp2_with (first | (go_at_call 31; refine Calls.mono (HG.out _ HR.out) ?_; rw [hg]; rintro e w1 ⟨rfl, k1⟩) | (go_at_call 40; refine (in_any _ _ _ _).mono ?_; rw [hd]; rintro e w' ⟨rfl, hq⟩; have hq2 := hq.symm; clear hq; subst hq2) | (go_at_call 41; refine Calls.mono (sunder _ _ _ l K (by omega) HP.out.1.2 HP.out HZ.out (HR.out.nw k1)) ?_; rintro e w' ⟨rfl, hq⟩; have hq2 := hq.symm; clear hq; subst hq2))
      go_ret2
      exact ⟨by rw [HO.out]; rfl, k1⟩
    · have HO : Hid (underV l k = .tuple #[.string ⟨#[]⟩, .bool false]) := underV_no (by unfold underOk; rw [hg, decide_eq_false hin]; rfl)
      have hd : decide ((0 : Int) ≤ k ∧ k ≤ (l.length : Int) - 1) = false := decide_eq_false (by omega)
      clear hin
      go_enter Tryd.func13, Tryd.ntmps13
      go_wp2_with (first | (go_at_call 31; refine Calls.mono (HG.out _ HR.out) ?_; rw [hg]; rintro e w1 ⟨rfl, k1⟩) | (go_at_call 40; refine (in_any _ _ _ _).mono ?_; rw [hd]; rintro e w' ⟨rfl, hq⟩; have hq2 := hq.symm; clear hq; subst hq2))
      go_ret2
      exact ⟨by rw [HO.out]; rfl, k1⟩
  · have hg' : goodB l = false := by simpa using hg
    have HO : Hid (underV l k = .tuple #[.string ⟨#[]⟩, .bool false]) := underV_no (by unfold underOk; rw [hg']; rfl)
    go_enter Tryd.func13, Tryd.ntmps13
    go_wp2_with (go_at_call 31; refine Calls.mono (HG.out _ HR.out) ?_; rw [hg']; rintro e w1 ⟨rfl, k1⟩)
    go_ret2
    exact ⟨by rw [HO.out]; rfl, k1⟩
end Go.Proofs.YtegjcllfjndkhaaDoor
