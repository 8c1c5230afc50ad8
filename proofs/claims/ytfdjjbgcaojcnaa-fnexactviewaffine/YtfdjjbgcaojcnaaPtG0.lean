/-
  Points: whether they are fixed, by the specification; numbers that are all fixed, by the program; each theorem names its conditions.
-/
import Derived.Test.YtfdjjbgcaojcnaaPt
import Derived.Test.YtfdjjbgcaojcnaaFx0
import Derived.Test.YtfdjjbgcaojcnaaIn
namespace Go.Proofs.Ytfdjjbgcaojcnaa
open Go.ChangeShapes Go.WideShapes Go.ChangeAt Go.RowKit
set_option linter.unusedVariables false

def ptB (p : Pnt) : Bool := fixB p.1 && fixB p.2
def ptsB (l : List Pnt) : Bool := l.all ptB
set_option maxHeartbeats 1000000 in
/-- The numbers zs, all fixed or not. -/
theorem iall_any (w : World) (b off c : Nat) (zs : List Int) (hl : zs.length ≤ 1048576) (hc : ∀ i, i < zs.length → w.cell? ⟨b, off + i, none⟩ = some (.int .i64 (zs.getD i 0))) :
    Calls Try.prog 67 #[.slice (some ⟨b, off, none⟩) zs.length c] w fun e w' => e = .returned (.bool (zs.all fixB)) ∧ w' = w := by
  obtain ⟨V, hV⟩ : ∃ V, zs.all fixB = V := ⟨_, rfl⟩
  rw [hV]
  have HV : Hid _ := hV
  have HC : Hid _ := hc
  clear hc hV
  go_enter Try.func67, Try.ntmps67
  go_wp2
  go_loop [7] (fun i => ∃ k : Nat, k ≤ zs.length ∧ i = .int .i64 k ∧ ∀ j, j < k → fixB (zs.getD j 0) = true) (fun i => zs.length - (intOf i).toNat)
  case atStart => exact ⟨0, Nat.zero_le _, rfl, fun j hj => absurd hj (by omega)⟩
  case round =>
    obtain ⟨k, hk, rfl, ha⟩ := hrel
    have HA : Hid _ := ha
    clear ha
    by_cases hlt : k < zs.length
    · have q := HC.out k hlt
      have hcall : Hid (∀ w, Calls Try.prog 99 #[.int .i64 (zs.getD k 0)] w fun e w' => e = .returned (.bool (fixB (zs.getD k 0))) ∧ w' = w) := fun w => igoodF _ w
      obtain ⟨x, hx⟩ : ∃ x, zs.getD k 0 = x := ⟨_, rfl⟩
      have HX : Hid (zs.getD k 0 = x) := hx
      rw [hx] at q hcall
      clear hx
      cases hf : fixB x with
      | true =>
        rw [hf] at hcall
        have HF : Hid (fixB x = true) := hf
        clear hf
        go_wp2_with fail
        refine (hcall.out _).mono ?_
        rintro e w1 ⟨rfl, rfl⟩
        go_wp2
        go_round
        case rel =>
          refine ⟨k + 1, by omega, by go_num, fun j hj => ?_⟩
          rcases Nat.lt_succ_iff_lt_or_eq.1 hj with h | h
          · exact HA.out j h
          · rw [h, HX.out]; exact HF.out
        case measure => simp [intOf]; omega
      | false =>
        rw [hf] at hcall
        have HF : Hid (V = false) := HV.out.symm.trans (all_false _ 0 zs k hlt (HX.out ▸ hf))
        clear hf
        go_wp2_with fail
        refine (hcall.out _).mono ?_
        rintro e w1 ⟨rfl, rfl⟩
        go_wp2
        go_ret
        exact ⟨ret_bool HF.out.symm, rfl⟩
    · have e : k = zs.length := by omega
      have HX : Hid (V = true) := HV.out.symm.trans (all_true _ 0 _ (fun j hj => HA.out j (by omega)))
      clear HA
      go_wp2
      go_ret
      exact ⟨ret_bool HX.out.symm, rfl⟩
theorem sgoodP (w : World) (x y : Int) : Calls Try.prog 35 #[.agg #[.int .i64 x, .int .i64 y]] w fun e w' => e = .returned (.bool (ptB (x, y))) ∧ Kp w w' := by
  have HX : Hid _ := fun w => sgoodF x w
  have HY : Hid _ := fun w => sgoodF y w
  have hv : ptB (x, y) = (fixB x && fixB y) := rfl
  rw [hv]
  clear hv
  generalize fixB x = bx at *
  generalize fixB y = by' at *
  cases bx with
  | false =>
    go_enter Try.func35, Try.ntmps35
    go_wp2_with fail
    refine (HX.out _).mono ?_
    rintro e w1 ⟨rfl, rfl⟩
    go_wp2
    go_ret
    exact ⟨rfl, (Kp.refl w).alloc _ _⟩
  | true =>
    rw [Bool.true_and]
    go_enter Try.func35, Try.ntmps35
    go_wp2_with fail
    refine (HX.out _).mono ?_
    rintro e w1 ⟨rfl, rfl⟩
    go_wp2_with fail
    refine (HY.out _).mono ?_
    rintro e w1 ⟨rfl, rfl⟩
    go_wp2
    go_ret
    exact ⟨rfl, (Kp.refl w).alloc _ _⟩
end Go.Proofs.Ytfdjjbgcaojcnaa
