/-
  What the program's helpers over lengths answer: goodLengths, countLengths, completeCounts; and the laws' helpers over lists of numbers; each theorem names its conditions.
-/
import Derived.Test.YtakdmgnkcpahbaaTab
namespace Go.Proofs.Ytakdmgnkcpahbaa
open Go.ChangeShapes Go.WideShapes Go.ChangeAt Go.RowKit
set_option linter.unusedVariables false

set_option maxHeartbeats 1000000 in
theorem toInt_any (w : World) (a : Option Addr) (cap : Nat) (zs : List Int) (hz : Row .i64 w a zs) (hl : zs.length ≤ 1048576) :
    Calls Try.prog 13 #[.slice a zs.length cap] w fun e w' => e = .returned (.slice (some ⟨w.heap.size, 0, none⟩) zs.length zs.length) ∧ w' = w.alloc (.cells (cellsOf .i64 zs) 3) := by
  have hmk := run_make_row' (P := Try.prog) 23 3 (.int .i64 0) 8 Try.underlying23 Try.info3 rfl .i64 .i64 zs.length (by omega) (by omega)
  have hp := part_none .i64 zs
  go_enter Try.func13, Try.ntmps13
  go_wp2
  go_loopw [4] (fun i wr => ∃ k : Nat, k ≤ zs.length ∧ i = .int .i64 k ∧ wr = w.alloc (.cells (part .i64 zs k) 3)) (fun i _ => zs.length - (intOf i).toNat)
  case atStart => exact ⟨0, Nat.zero_le _, rfl, rfl⟩
  case round =>
    obtain ⟨k, hk, rfl, rfl⟩ := hrel
    clear hp hmk
    by_cases hlt : k < zs.length
    · rcases hz with rfl | ⟨b, off, rfl, hb, hc⟩
      · exact absurd hlt (by simp)
      · have hcx : (w.alloc (.cells (part .i64 zs k) 3)).cell? ⟨b, off + k, none⟩ = some (.int .i64 (zs.getD k 0)) := by
          rw [← hc k hlt]; exact (Below.alloc (Below.refl w.heap.size w) (Nat.le_refl _) _).cell (p := ⟨b, off + k, none⟩) hb
        have hst := part_step .i64 zs k hlt
        have hat := part_at .i64 zs k hlt
        have HST : Hid _ := hst
        clear hst hc
        generalize zs.getD k 0 = z at *
        go_wp2
        go_round
        case rel => exact ⟨k + 1, by omega, by go_num, by rw [← HST.out]⟩
        case measure => simp [intOf]; omega
    · have e : k = zs.length := by omega
      subst e
      rw [part_all]
      go_wp2
      go_ret
      exact ⟨rfl, rfl⟩

/-- Alike lists are told to be alike. -/
theorem eqInt_any (w : World) (a1 a2 : Option Addr) (c1 c2 : Nat) (zs : List Int) (hl : zs.length ≤ 1048576) (h1 : Row .i64 w a1 zs) (h2 : Row .i64 w a2 zs) :
    Calls Try.prog 14 #[.slice a1 zs.length c1, .slice a2 zs.length c2] w fun e w' => e = .returned (.bool true) ∧ ∃ q, w' = w.drewN q := by
  go_enter Try.func14, Try.ntmps14
  go_wp2
  go_loopw [5] (fun i wr => ∃ k q : Nat, k ≤ zs.length ∧ i = .int .i64 k ∧ wr = w.drewN q) (fun i _ => zs.length - (intOf i).toNat)
  case atStart => exact ⟨0, 0, Nat.zero_le _, rfl, rfl⟩
  case round =>
    obtain ⟨k, q, hk, rfl, rfl⟩ := hrel
    by_cases hlt : k < zs.length
    · rcases h1 with rfl | ⟨b1, o1, rfl, hb1, h1⟩
      · exact absurd hlt (by simp)
      rcases h2 with rfl | ⟨b2, o2, rfl, hb2, h2⟩
      · exact absurd hlt (by simp)
      have c0 := h1 k hlt
      have c1 := h2 k hlt
      clear h1 h2
      generalize zs.getD k 0 = x at *
      have hq : (x == x) = true := by simp
      go_wp2
      go_quiet (fail)
      go_wp2
      go_roundw
      case rel => exact ⟨k + 1, _, by omega, by go_num, rfl⟩
      case measure => simp [intOf]; omega
    · clear h1 h2
      go_wp2
      go_ret
      exact ⟨rfl, _, rfl⟩

set_option maxHeartbeats 1000000 in
theorem good_any (w : World) (b off cap : Nat) (zs : List Int) (hl : zs.length ≤ 1048576) (hc : ∀ i, i < zs.length → w.cell? ⟨b, off + i, none⟩ = some (.int .i64 (zs.getD i 0))) :
    Calls Try.prog 23 #[.slice (some ⟨b, off, none⟩) zs.length cap] w fun e w' => e = .returned (.bool (fit zs)) ∧ w' = w := by
  by_cases h3 : zs.length ≤ 300
  · have d1 : decide ((300 : Int) < (zs.length : Int)) = false := by simp; omega
    have HC : Hid _ := hc
    clear hc
    go_enter Try.func23, Try.ntmps23
    go_wp2
    go_loop [10] (fun i => ∃ k : Nat, k ≤ zs.length ∧ i = .int .i64 k ∧ ∀ j, j < k → 0 ≤ zs.getD j 0 ∧ zs.getD j 0 ≤ 15) (fun i => zs.length - (intOf i).toNat)
    case atStart => exact ⟨0, Nat.zero_le _, rfl, fun j hj => absurd hj (by omega)⟩
    case round =>
      obtain ⟨k, hk, rfl, hall⟩ := hrel
      have HA : Hid _ := hall
      clear hall
      by_cases hlt : k < zs.length
      · have c0 := HC.out k hlt
        by_cases h0 : 0 ≤ zs.getD k 0
        · by_cases h15 : zs.getD k 0 ≤ 15
          · have HN : Hid (∀ j, j < k + 1 → 0 ≤ zs.getD j 0 ∧ zs.getD j 0 ≤ 15) := by
              intro j hj
              by_cases e : j = k
              · subst e; exact ⟨h0, h15⟩
              · exact HA.out j (by omega)
            have e1 : decide (zs.getD k 0 < 0) = false := decide_eq_false (by omega)
            have e2 : decide (15 < zs.getD k 0) = false := decide_eq_false (by omega)
            generalize zs.getD k 0 = x at *
            go_wp2
            go_round
            case rel => exact ⟨k + 1, by omega, by go_num, HN.out⟩
            case measure => simp [intOf]; omega
          · have HF : Hid (fit zs = false) := fit_no h3 k hlt (by omega)
            have e1 : decide (zs.getD k 0 < 0) = false := decide_eq_false (by omega)
            have e2 : decide (15 < zs.getD k 0) = true := decide_eq_true (by omega)
            generalize zs.getD k 0 = x at *
            go_wp2
            go_ret
            exact ⟨by rw [HF.out]; rfl, rfl⟩
        · have HF : Hid (fit zs = false) := fit_no h3 k hlt (by omega)
          have e1 : decide (zs.getD k 0 < 0) = true := decide_eq_true (by omega)
          generalize zs.getD k 0 = x at *
          go_wp2
          go_ret
          exact ⟨by rw [HF.out]; rfl, rfl⟩
      · have HF : Hid (fit zs = true) := by
          show fit zs = true
          simp [fit]
          refine ⟨h3, fun x hx => ?_⟩
          obtain ⟨j, hj, rfl⟩ := List.getElem_of_mem hx
          have := HA.out j (by omega)
          simpa [hj] using this
        go_wp2
        go_ret
        exact ⟨by rw [HF.out]; rfl, rfl⟩
  · have d1 : decide ((300 : Int) < (zs.length : Int)) = true := by simp; omega
    have HF : Hid (fit zs = false) := by show fit zs = false; simp [fit]; intro h; omega
    clear hc
    go_enter Try.func23, Try.ntmps23
    go_wp2
    go_ret
    exact ⟨by rw [HF.out]; rfl, rfl⟩
end Go.Proofs.Ytakdmgnkcpahbaa
