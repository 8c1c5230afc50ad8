/-
  What the law's helper toByteS does: it makes a new list of the same bytes; the theorem names its conditions.
-/
import Derived.Test.YteehoihkbcbbgaaDoorBytes
namespace Go.Proofs.YteehoihkbcbbgaaDoor
open Go.ChangeShapes Go.WideShapes Go.ChangeAt Go.RowKit
set_option linter.unusedVariables false

set_option maxHeartbeats 1000000 in
theorem toByte_any (w : World) (a : Option Addr) (cap : Nat) (zs : List Int) (hz : Row .u8 w a zs) (hl : zs.length ≤ 1048576) :
    Calls Tryd.prog 13 #[.slice a zs.length cap] w fun e w' => e = .returned (.slice (some ⟨w.heap.size, 0, none⟩) zs.length zs.length) ∧ w' = w.alloc (.cells (cellsOf .u8 zs) 5) := by
  have hmk := run_make_row' (P := Tryd.prog) 22 5 (.int .u8 0) 1 Tryd.underlying22 Tryd.info5 rfl .i64 .i64 zs.length (by omega) (by omega)
  have hp := part_none .u8 zs
  go_enter Tryd.func13, Tryd.ntmps13
  go_wp2
  go_loopw [4] (fun i wr => ∃ k : Nat, k ≤ zs.length ∧ i = .int .i64 k ∧ wr = w.alloc (.cells (part .u8 zs k) 5)) (fun i _ => zs.length - (intOf i).toNat)
  case atStart => exact ⟨0, Nat.zero_le _, rfl, rfl⟩
  case round =>
    obtain ⟨k, hk, rfl, rfl⟩ := hrel
    clear hp hmk
    by_cases hlt : k < zs.length
    · rcases hz with rfl | ⟨b, off, rfl, hb, hc⟩
      · exact absurd hlt (by simp)
      · have hcx : (w.alloc (.cells (part .u8 zs k) 5)).cell? ⟨b, off + k, none⟩ = some (.int .u8 (zs.getD k 0)) := by
          rw [← hc k hlt]; exact (Below.alloc (Below.refl w.heap.size w) (Nat.le_refl _) _).cell (p := ⟨b, off + k, none⟩) hb
        have hst := part_step .u8 zs k hlt
        have hat := part_at .u8 zs k hlt
        have HST : Hid _ := hst
        clear hst hc
        generalize zs.getD k 0 = z at *
        go_wp2
        go_round
        case rel => exact ⟨k + 1, by omega, by go_num, by rw [← HST.out]⟩
        case measure => simp [intOf]; omega
    · have e : k = zs.length := by omega
      subst e
      rw [part_all]
      go_wp2
      go_ret
      exact ⟨rfl, rfl⟩
end Go.Proofs.YteehoihkbcbbgaaDoor
