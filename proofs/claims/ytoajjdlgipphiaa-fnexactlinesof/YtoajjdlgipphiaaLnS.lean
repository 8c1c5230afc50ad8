/-
  Rows of lines: what the laws' helpers do that hold two against each other, mark one and look for the marks; each theorem names its conditions.
-/
import Derived.Test.YtoajjdlgipphiaaLnH
import Derived.Test.YtoajjdlgipphiaaLn
import Derived.Test.YtoajjdlgipphiaaMd
import Derived.Deep.RegionWith
import Derived.Test.YtoajjdlgipphiaaLnM
import Derived.Test.YtoajjdlgipphiaaPtHh
namespace Go.Proofs.Ytoajjdlgipphiaa
open Go.ChangeShapes Go.WideShapes Go.ChangeAt Go.RowKit
set_option linter.unusedVariables false

theorem heldPt_v (w : World) (v : Value) (n K : Nat) (hl : n ≤ 1048576) (hK2 : K ≤ 50000000) (h : Mkd w v n K) :
    Calls Try.prog 41 #[v, .int .i64 (K : Int)] w fun e w' => e = .returned (.int .i64 ((K + 2 * n : Nat) : Int)) ∧ w' = w := by
  rcases h with ⟨rfl, rfl⟩ | ⟨g, c, rfl, h2⟩
  · refine (heldPt_nil w K hK2).mono ?_
    rintro e w' ⟨rfl, rfl⟩
    exact ⟨rfl, rfl⟩
  · exact heldPt_any w g c K n hl hK2 h2
set_option maxHeartbeats 4000000 in
theorem heldLineS_any (w : World) (g c : Nat) (vs : List Value) (ns : List Nat) (K : Nat) (hn : vs.length ≤ 1048576) (hk : ∀ i, i < vs.length → nAt ns i ≤ 1048576) (hK : kAt ns K vs.length ≤ 40000000) (h : MkLn w g vs ns K vs.length) :
    Calls Try.prog 16 #[.slice (some ⟨g, 0, none⟩) vs.length c, .int .i64 (K : Int)] w fun e w' => e = .returned (.int .i64 (kAt ns K vs.length : Int)) ∧ w' = w := by
  have HK : Hid (∀ i, i < vs.length → nAt ns i ≤ 1048576) := hk
  have HH : Hid (MkLn w g vs ns K vs.length) := h
  clear hk h
  go_enter Try.func16, Try.ntmps16
  go_wp2
  go_loop [1, 5] (fun x i => ∃ j : Nat, j ≤ vs.length ∧ i = .int .i64 j ∧ x = .int .i64 (kAt ns K j : Int)) (fun _ i => vs.length - (intOf i).toNat)
  case atStart => exact ⟨0, Nat.zero_le _, rfl, rfl⟩
  case round =>
    obtain ⟨j, hj, rfl, rfl⟩ := hrel
    by_cases hlt : j < vs.length
    · have q0 := HH.out.sl j hlt
      have q1 := HH.out.c1 j hlt hlt
      have hkj : kAt ns K (j + 1) ≤ kAt ns K vs.length := kAt_mono ns K hlt
      have HE : Hid (kAt ns K (j + 1) = kAt ns K j + 2 * nAt ns j + 1) := rfl
      have hkj2 : kAt ns K j + 2 * nAt ns j + 1 ≤ 40000000 := by have := HE.out; omega
      have HC : Hid _ := heldPt_v w (vAt vs j) (nAt ns j) (kAt ns K j) (HK.out j hlt) (by omega) (HH.out.p1 j hlt hlt)
      obtain ⟨va, vc, hv⟩ := (HH.out.p1 j hlt hlt).form
      rw [hv] at q0 HC
      rw [clB_at] at q1
      generalize nAt ns j = n at *
      generalize kAt ns K j = k at *
      clear hv
      have hkz : 0 ≤ ((k + 2 * n : Nat) : Int) ∧ ((k + 2 * n : Nat) : Int) ≤ 40000000 := by omega
      have HZ : Hid (((k + 2 * n + 1 : Nat) : Int) = ((k + 2 * n : Nat) : Int) + 1) := by show _ = _; omega
      generalize ((k + 2 * n : Nat) : Int) = Z at *
      have hz0 : decide (Z < 0) = false := decide_eq_false (by omega)
      have hbb : ((Z % 3 == 0) != (Z % 3 == 0)) = false := by cases (Z % 3 == 0) <;> rfl
      go_wp2_with fail
      refine Calls.mono HC.out ?_
      rintro e w1 ⟨rfl, rfl⟩
      clear HC
      go_wp2
      go_round
      case rel => exact ⟨j + 1, by omega, by go_num, by rw [HE.out, HZ.out]⟩
      case measure => simp [intOf]; omega
    · have e : j = vs.length := by omega
      subst e
      go_wp2
      go_ret
      exact ⟨rfl, rfl⟩
theorem heldLineS_nil (w : World) (K : Nat) (hK : K ≤ 40000000) : Calls Try.prog 16 #[.slice none 0 0, .int .i64 (K : Int)] w fun e w' => e = .returned (.int .i64 (K : Int)) ∧ w' = w := by
  go_enter Try.func16, Try.ntmps16
  go_wp2
  go_loop [1, 5] (fun x i => x = .int .i64 (K : Int) ∧ i = .int .i64 0) (fun _ _ => 0)
  case atStart => exact ⟨rfl, rfl⟩
  case round =>
    obtain ⟨rfl, rfl⟩ := hrel
    go_wp2
    go_ret
    exact ⟨rfl, rfl⟩
end Go.Proofs.Ytoajjdlgipphiaa
