/-
  Points: whether they are fixed, of both; each theorem names its conditions.
-/
import Derived.Test.YtmojppchpeecmaaPt
import Derived.Test.YtmojppchpeecmaaFM
import Derived.Test.YtmojppchpeecmaaIn
namespace Go.Proofs.Ytmojppchpeecmaa
open Go.ChangeShapes Go.WideShapes Go.ChangeAt Go.RowKit
set_option linter.unusedVariables false

def ptB (p : Pnt) : Bool := fixB p.1 && fixB p.2
def ptsB (l : List Pnt) : Bool := l.all ptB
theorem all_false {α : Type} (f : α → Bool) (d : α) (l : List α) (k : Nat) (hk : k < l.length) (h : f (l.getD k d) = false) : l.all f = false := by
  rw [List.all_eq_false]
  refine ⟨l.getD k d, ?_, by rw [h]; decide⟩
  rw [show l.getD k d = l[k] by simp [hk]]
  exact List.getElem_mem hk
theorem all_true {α : Type} (f : α → Bool) (d : α) (l : List α) (h : ∀ k, k < l.length → f (l.getD k d) = true) : l.all f = true := by
  rw [List.all_eq_true]
  intro x hx
  obtain ⟨k, hk, rfl⟩ := List.getElem_of_mem hx
  have := h k hk
  rw [show l.getD k d = l[k] by simp [hk]] at this
  exact this
set_option maxHeartbeats 1000000 in
/-- The numbers zs, all fixed or not. -/
theorem iall_any (w : World) (b off c : Nat) (zs : List Int) (hl : zs.length ≤ 1048576) (hc : ∀ i, i < zs.length → w.cell? ⟨b, off + i, none⟩ = some (.int .i64 (zs.getD i 0))) :
    Calls Try.prog 71 #[.slice (some ⟨b, off, none⟩) zs.length c] w fun e w' => e = .returned (.bool (zs.all fixB)) ∧ w' = w := by
  obtain ⟨V, hV⟩ : ∃ V, zs.all fixB = V := ⟨_, rfl⟩
  rw [hV]
  have HV : Hid _ := hV
  have HC : Hid _ := hc
  clear hc hV
  go_enter Try.func71, Try.ntmps71
  go_wp2
  go_loop [7] (fun i => ∃ k : Nat, k ≤ zs.length ∧ i = .int .i64 k ∧ ∀ j, j < k → fixB (zs.getD j 0) = true) (fun i => zs.length - (intOf i).toNat)
  case atStart => exact ⟨0, Nat.zero_le _, rfl, fun j hj => absurd hj (by omega)⟩
  case round =>
    obtain ⟨k, hk, rfl, ha⟩ := hrel
    have HA : Hid _ := ha
    clear ha
    by_cases hlt : k < zs.length
    · have q := HC.out k hlt
      have hcall : Hid (∀ w, Calls Try.prog 99 #[.int .i64 (zs.getD k 0)] w fun e w' => e = .returned (.bool (fixB (zs.getD k 0))) ∧ w' = w) := fun w => igoodF _ w
      obtain ⟨x, hx⟩ : ∃ x, zs.getD k 0 = x := ⟨_, rfl⟩
      have HX : Hid (zs.getD k 0 = x) := hx
      rw [hx] at q hcall
      clear hx
      cases hf : fixB x with
      | true =>
        rw [hf] at hcall
        have HF : Hid (fixB x = true) := hf
        clear hf
        go_wp2_with fail
        refine (hcall.out _).mono ?_
        rintro e w1 ⟨rfl, rfl⟩
        go_wp2
        go_round
        case rel =>
          refine ⟨k + 1, by omega, by go_num, fun j hj => ?_⟩
          rcases Nat.lt_succ_iff_lt_or_eq.1 hj with h | h
          · exact HA.out j h
          · rw [h, HX.out]; exact HF.out
        case measure => simp [intOf]; omega
      | false =>
        rw [hf] at hcall
        have HF : Hid (V = false) := HV.out.symm.trans (all_false _ 0 zs k hlt (HX.out ▸ hf))
        clear hf
        go_wp2_with fail
        refine (hcall.out _).mono ?_
        rintro e w1 ⟨rfl, rfl⟩
        go_wp2
        go_ret
        exact ⟨ret_bool HF.out.symm, rfl⟩
    · have e : k = zs.length := by omega
      have HX : Hid (V = true) := HV.out.symm.trans (all_true _ 0 _ (fun j hj => HA.out j (by omega)))
      clear HA
      go_wp2
      go_ret
      exact ⟨ret_bool HX.out.symm, rfl⟩
theorem igoodP (w : World) (x y : Int) : Calls Try.prog 79 #[.agg #[.int .i64 x, .int .i64 y]] w fun e w' => e = .returned (.bool (ptB (x, y))) ∧ Kp w w' := by
  have hv : [x, y].all fixB = ptB (x, y) := by simp [ptB]
  have HC : Hid (∀ (w : World) (b : Nat), w.cell? ⟨b, 0, none⟩ = some (.int .i64 x) → w.cell? ⟨b, 1, none⟩ = some (.int .i64 y) → Calls Try.prog 71 #[.slice (some ⟨b, 0, none⟩) 2 2] w fun e w' => e = .returned (.bool ([x, y].all fixB)) ∧ w' = w) := fun w b h0 h1 => iall_any w b 0 2 [x, y] (by simp) (fun i hi => by
    have : i = 0 ∨ i = 1 := by simp at hi; omega
    rcases this with rfl | rfl
    · exact h0
    · exact h1)
  rw [hv] at HC
  generalize ptB (x, y) = V at *
  clear hv
  go_enter Try.func79, Try.ntmps79
  go_wp2_with fail
  refine Calls.mono (HC.out _ _ (by simp) (by simp)) ?_
  rintro e w1 ⟨rfl, rfl⟩
  go_wp2
  go_ret
  exact ⟨rfl, ((Kp.refl w).alloc _ _).alloc _ _⟩
theorem sgoodP (w : World) (x y : Int) : Calls Try.prog 46 #[.agg #[.int .i64 x, .int .i64 y]] w fun e w' => e = .returned (.bool (ptB (x, y))) ∧ Kp w w' := by
  have HX : Hid _ := fun w => sgoodF x w
  have HY : Hid _ := fun w => sgoodF y w
  have hv : ptB (x, y) = (fixB x && fixB y) := rfl
  rw [hv]
  clear hv
  generalize fixB x = bx at *
  generalize fixB y = by' at *
  cases bx with
  | false =>
    go_enter Try.func46, Try.ntmps46
    go_wp2_with fail
    refine (HX.out _).mono ?_
    rintro e w1 ⟨rfl, rfl⟩
    go_wp2
    go_ret
    exact ⟨rfl, (Kp.refl w).alloc _ _⟩
  | true =>
    rw [Bool.true_and]
    go_enter Try.func46, Try.ntmps46
    go_wp2_with fail
    refine (HX.out _).mono ?_
    rintro e w1 ⟨rfl, rfl⟩
    go_wp2_with fail
    refine (HY.out _).mono ?_
    rintro e w1 ⟨rfl, rfl⟩
    go_wp2
    go_ret
    exact ⟨rfl, (Kp.refl w).alloc _ _⟩
set_option maxHeartbeats 1000000 in
theorem igoodPs (w : World) (a : Option Addr) (c : Nat) (l : List Pnt) (hl : l.length ≤ 1048576) (hr : Pts w a l) :
    Calls Try.prog 43 #[.slice a l.length c] w fun e w' => e = .returned (.bool (ptsB l)) ∧ Kp w w' := by
  obtain ⟨V, hV⟩ : ∃ V, ptsB l = V := ⟨_, rfl⟩
  rw [hV]
  have HV : Hid _ := hV
  have HR : Hid (Pts w a l) := hr
  clear hr hV
  go_enter Try.func43, Try.ntmps43
  go_wp2
  go_loopw [7] (fun i wr => ∃ k : Nat, k ≤ l.length ∧ i = .int .i64 k ∧ (∀ j, j < k → ptB (ptAt l j) = true) ∧ Kp w wr) (fun i _ => l.length - (intOf i).toNat)
  case atStart => exact ⟨0, Nat.zero_le _, rfl, fun j hj => absurd hj (by omega), Kp.refl _⟩
  case round =>
    obtain ⟨k, hk, rfl, ha, hw⟩ := hrel
    have HA : Hid _ := ha
    have HW : Hid (Kp w wr) := hw
    clear ha hw
    by_cases hlt : k < l.length
    · rcases (HR.out.nw HW.out.nw) with h | ⟨b, off, rfl, hb, hc⟩
      · rw [h] at hlt; simp at hlt
      obtain ⟨q0, q1⟩ := hc k hlt
      clear hc
      obtain ⟨p, hp⟩ : ∃ p, ptAt l k = p := ⟨_, rfl⟩
      have HP : Hid (ptAt l k = p) := hp
      rw [hp] at q0 q1
      clear hp
      obtain ⟨x, y⟩ := p
      have hcall : Hid _ := fun w => igoodP w x y
      cases hf : ptB (x, y) with
      | true =>
        rw [hf] at hcall
        have HF : Hid (ptB (x, y) = true) := hf
        clear hf
        go_wp2_with fail
        refine (hcall.out _).mono ?_
        rintro e w1 ⟨rfl, k1⟩
        have K1 : Hid (Kp w w1) := Kp.trans (HW.out.alloc _ _) k1
        clear k1
        go_wp2
        go_roundw
        case rel =>
          refine ⟨k + 1, by omega, by go_num, fun j hj => ?_, K1.out⟩
          rcases Nat.lt_succ_iff_lt_or_eq.1 hj with h | h
          · exact HA.out j h
          · rw [h, HP.out]; exact HF.out
        case measure => simp [intOf]; omega
      | false =>
        rw [hf] at hcall
        have HF : Hid (V = false) := HV.out.symm.trans (all_false _ (0, 0) l k hlt (show ptB (ptAt l k) = false by rw [HP.out]; exact hf))
        clear hf
        go_wp2_with fail
        refine (hcall.out _).mono ?_
        rintro e w1 ⟨rfl, k1⟩
        have K1 : Hid (Kp w w1) := Kp.trans (HW.out.alloc _ _) k1
        clear k1
        go_wp2
        go_ret
        exact ⟨ret_bool HF.out.symm, K1.out⟩
    · have HX : Hid (V = true) := HV.out.symm.trans (all_true _ (0, 0) _ (fun j hj => HA.out j (by omega)))
      clear HA
      go_wp2
      go_ret
      exact ⟨ret_bool HX.out.symm, HW.out⟩
end Go.Proofs.Ytmojppchpeecmaa
