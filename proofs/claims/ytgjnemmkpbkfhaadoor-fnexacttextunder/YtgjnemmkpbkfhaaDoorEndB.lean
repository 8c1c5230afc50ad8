/-
  Where what is below a node ends, the program's; each theorem names its conditions.
-/
import Derived.Test.YtgjnemmkpbkfhaaDoorUnP
namespace Go.Proofs.YtgjnemmkpbkfhaaDoor
open Go.ChangeShapes Go.WideShapes Go.ChangeAt Go.RowKit
set_option linter.unusedVariables false

theorem iend (w : World) (a : Option Addr) (c : Nat) (l : List ND) (k : Nat) (hk : k < l.length) (hl : l.length ≤ 60) (hr : Nodes w a l) :
    Calls Tryd.prog 46 #[.slice a l.length c, .int .i64 k] w fun e w' => (∃ n : Nat, EndAt l k n ∧ e = .returned (.int .i64 n)) ∧ w' = w := by
  rcases hr with h | ⟨b, o, rfl, hb, hc⟩
  · rw [h] at hk; simp at hk
  have HC : Hid (∀ i, i < l.length → w.cell? ⟨b, o + i * 4 + 1, none⟩ = some (.int .i64 (upAt l i))) := fun i hi => (hc i hi).2.1
  clear hc hb
  go_enter Tryd.func46, Tryd.ntmps46
  go_wp2
  go_loop [5] (fun x => ∃ n : Nat, k < n ∧ n ≤ l.length ∧ x = .int .i64 n ∧ ∀ j, k < j → j < n → (k : Int) ≤ upAt l j) (fun x => l.length - (intOf x).toNat)
  case atStart => exact ⟨k + 1, by omega, by omega, by go_num, fun j h1 h2 => absurd h1 (by omega)⟩
  case round =>
    obtain ⟨n, hn, hle, rfl, hin⟩ := hrel
    have HI : Hid (∀ j, k < j → j < n → (k : Int) ≤ upAt l j) := hin
    clear hin
    by_cases hlt : n < l.length
    · have q := HC.out n hlt
      have hltI : (n : Int) < l.length := by omega
      by_cases hge : (k : Int) ≤ upAt l n
      · have HI2 : Hid (∀ j, k < j → j < n + 1 → (k : Int) ≤ upAt l j) := fun j h1 h2 => by
          by_cases e : j = n
          · rw [e]; exact hge
          · exact HI.out j h1 (by omega)
        generalize upAt l n = U at *
        go_wp2
        go_round
        case rel => exact ⟨n + 1, by omega, by omega, by go_num, HI2.out⟩
        case measure => simp [intOf]; omega
      · have HO : Hid (EndAt l k n) := ⟨by omega, by omega, HI.out, fun _ => by omega⟩
        generalize upAt l n = U at *
        go_wp2
        go_ret
        exact ⟨⟨n, HO.out, rfl⟩, rfl⟩
    · have hltI : ¬ (n : Int) < l.length := by omega
      go_wp2
      go_ret
      exact ⟨⟨n, ⟨by omega, by omega, HI.out, fun h => absurd h hlt⟩, rfl⟩, rfl⟩
end Go.Proofs.YtgjnemmkpbkfhaaDoor
