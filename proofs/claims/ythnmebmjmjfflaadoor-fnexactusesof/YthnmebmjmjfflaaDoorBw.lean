/-
  Where what is below a node ends, whether one node is below another, and sets of nodes as bits; each theorem names its conditions.
-/
import Derived.Test.YthnmebmjmjfflaaDoorTg
namespace Go.Proofs.YthnmebmjmjfflaaDoor
open Go.ChangeShapes Go.WideShapes Go.ChangeAt Go.RowKit
set_option linter.unusedVariables false

/-- What is below k ends at n: all ahead of it have ups of k or more, and it has not (or is the end). -/
structure EndAt (l : List ND) (k n : Nat) : Prop where
  lt : k < n
  le : n ≤ l.length
  ins : ∀ j, k < j → j < n → (k : Int) ≤ upAt l j
  out : n < l.length → upAt l n < k
theorem iend (w : World) (a : Option Addr) (c : Nat) (l : List ND) (k : Nat) (hk : k < l.length) (hl : l.length ≤ 60) (hr : Nodes w a l) :
    Calls Tryd.prog 42 #[.slice a l.length c, .int .i64 k] w fun e w' => (∃ n : Nat, EndAt l k n ∧ e = .returned (.int .i64 n)) ∧ w' = w := by
  rcases hr with h | ⟨b, o, rfl, hb, hc⟩
  · rw [h] at hk; simp at hk
  have HC : Hid (∀ i, i < l.length → w.cell? ⟨b, o + i * 4 + 1, none⟩ = some (.int .i64 (upAt l i))) := fun i hi => (hc i hi).2.1
  clear hc hb
  go_enter Tryd.func42, Tryd.ntmps42
  go_wp2
  go_loop [5] (fun x => ∃ n : Nat, k < n ∧ n ≤ l.length ∧ x = .int .i64 n ∧ ∀ j, k < j → j < n → (k : Int) ≤ upAt l j) (fun x => l.length - (intOf x).toNat)
  case atStart => exact ⟨k + 1, by omega, by omega, by go_num, fun j h1 h2 => absurd h1 (by omega)⟩
  case round =>
    obtain ⟨n, hn, hle, rfl, hin⟩ := hrel
    have HI : Hid (∀ j, k < j → j < n → (k : Int) ≤ upAt l j) := hin
    clear hin
    by_cases hlt : n < l.length
    · have q := HC.out n hlt
      have hltI : (n : Int) < l.length := by omega
      by_cases hge : (k : Int) ≤ upAt l n
      · have HI2 : Hid (∀ j, k < j → j < n + 1 → (k : Int) ≤ upAt l j) := fun j h1 h2 => by
          by_cases e : j = n
          · rw [e]; exact hge
          · exact HI.out j h1 (by omega)
        generalize upAt l n = U at *
        go_wp2
        go_round
        case rel => exact ⟨n + 1, by omega, by omega, by go_num, HI2.out⟩
        case measure => simp [intOf]; omega
      · have HO : Hid (EndAt l k n) := ⟨by omega, by omega, HI.out, fun _ => by omega⟩
        generalize upAt l n = U at *
        go_wp2
        go_ret
        exact ⟨⟨n, HO.out, rfl⟩, rfl⟩
    · have hltI : ¬ (n : Int) < l.length := by omega
      go_wp2
      go_ret
      exact ⟨⟨n, ⟨by omega, by omega, HI.out, fun h => absurd h hlt⟩, rfl⟩, rfl⟩
theorem sbelow (w : World) (a : Option Addr) (c : Nat) (l : List ND) (k i : Nat) (hk : k ≤ i) (hi : i < l.length) (hl : l.length ≤ 60) (hu : Ups l l.length) (hr : Nodes w a l) :
    Calls Tryd.prog 34 #[.slice a l.length c, .int .i64 i, .int .i64 k] w fun e w' => e = .returned (.bool (meetsN l k i)) ∧ w' = w := by
  rcases hr with h | ⟨b, o, rfl, hb, hc⟩
  · rw [h] at hi; simp at hi
  have HC : Hid (∀ i, i < l.length → w.cell? ⟨b, o + i * 4 + 1, none⟩ = some (.int .i64 (upAt l i))) := fun i hi => (hc i hi).2.1
  have HU : Hid (Ups l l.length) := hu
  clear hc hb hu
  obtain ⟨M, hM⟩ : ∃ M, M = meetsN l k i := ⟨_, rfl⟩
  rw [← hM]
  have HM0 : Hid (M = meetsN l k i) := hM
  clear hM
  go_enter Tryd.func34, Tryd.ntmps34
  go_wp2
  go_loop [1] (fun x => ∃ t : Int, x = .int .i64 t ∧ -1 ≤ t ∧ t ≤ i ∧ M = meetsN l k t) (fun x => (intOf x + 1).toNat)
  case atStart => exact ⟨(i : Int), rfl, by omega, by omega, HM0.out⟩
  case round =>
    obtain ⟨t, rfl, t0, t1, hme⟩ := hrel
    have HM : Hid (M = meetsN l k t) := hme
    clear hme
    by_cases hgt : (k : Int) < t
    · obtain ⟨T, rfl⟩ : ∃ T : Nat, t = T := ⟨t.toNat, by omega⟩
      have p1 := HC.out T (by omega)
      have hup := HU.out T (by omega)
      have HQ : Hid (M = meetsN l k (upAt l T)) := by
        show _ = _
        rw [HM.out, meetsN_up l k T l.length HU.out (Nat.le_refl _) (by omega) (by omega) (by omega)]
        simp
      have hTl : (T : Int) < l.length := by omega
      generalize upAt l T = U at *
      go_wp2
      go_round
      case rel => exact ⟨U, rfl, by omega, by omega, HQ.out⟩
      case measure => simp [intOf]; omega
    · by_cases he : t = k
      · subst he
        have HT : Hid (M = true) := by show _ = _; rw [HM.out]; exact meetsN_same l k (by omega)
        go_wp2
        go_ret
        exact ⟨by rw [HT.out]; rfl, rfl⟩
      · have HT : Hid (M = false) := by
          show _ = _
          rw [HM.out]
          exact meetsN_small l l.length HU.out (Nat.le_refl _) _ _ (by omega) (by omega) (by omega)
        have hne : (t == (k : Int)) = false := beq_eq_false_iff_ne.2 he
        go_wp2
        go_ret
        exact ⟨by rw [HT.out]; rfl, rfl⟩
end Go.Proofs.YthnmebmjmjfflaaDoor
