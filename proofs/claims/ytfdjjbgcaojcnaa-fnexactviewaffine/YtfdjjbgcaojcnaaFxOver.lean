/-
  What the specification's l1Over answers, for numbers within the bounds named in its theorem.
-/
import Derived.Test.YtfdjjbgcaojcnaaFxSum
import Derived.StillTactics
import Derived.Laws.Pointers
import Derived.Deep.RegionHeld3
namespace Go.Proofs.Ytfdjjbgcaojcnaa
open Go.ChangeShapes Go.WideShapes Go.ChangeAt Go.RowKit

/-- A box of two cells is as it was behind a new block. -/
theorem box_alloc {B : Nat} {W : World} {p q : Value} (h : W.cell? ⟨B, 0, none⟩ = some p ∧ W.cell? ⟨B, 1, none⟩ = some q ∧ B < W.heap.size) (o : Obj) :
    (W.alloc o).cell? ⟨B, 0, none⟩ = some p ∧ (W.alloc o).cell? ⟨B, 1, none⟩ = some q ∧ B < (W.alloc o).heap.size := by
  obtain ⟨h1, h2, h3⟩ := h
  exact ⟨by rw [World.cell?_alloc_past _ _ _ h3]; exact h1, by rw [World.cell?_alloc_past _ _ _ h3]; exact h2, by simp; omega⟩

set_option maxHeartbeats 2000000 in
theorem over_any (n b most : Int) (w : World) (hn : 0 ≤ n) (hb : 0 < b) (hb' : b < 4611686018427387904) (hm : 0 ≤ most) (hm' : most < 4611686018427387904) :
    Calls Try.prog 145 #[.agg #[.int .u64 (n / 18446744073709551616), .int .u64 (n % 18446744073709551616)], .int .u64 b, .int .u64 most] w fun e w' => ∃ r : Int, e = .returned (.int .u64 r) ∧ 0 ≤ r ∧ r ≤ most ∧ r * b ≤ n ∧ (r = most ∨ n < (r + 1) * b) ∧ Kp w w' := by
  generalize hp : n / 18446744073709551616 = p
  generalize hq : n % 18446744073709551616 = q
  have HP : Hid (_ = p) := hp
  have HQ : Hid (_ = q) := hq
  clear hp hq
  go_enter Try.func145, Try.ntmps145
  go_wp2
  go_loopw [7, 8] (fun lo hi W => ∃ l h : Int, 0 ≤ l ∧ l ≤ h ∧ h ≤ most ∧ lo = .int .u64 l ∧ hi = .int .u64 h ∧ l * b ≤ n ∧ (h = most ∨ n < (h + 1) * b) ∧ W.cell? ⟨w.heap.size, 0, none⟩ = some (.int .u64 p) ∧ W.cell? ⟨w.heap.size, 1, none⟩ = some (.int .u64 q) ∧ w.heap.size < W.heap.size ∧ Kp w W) (fun lo hi _ => (intOf hi - intOf lo).toNat)
  case atStart => exact ⟨0, most, by omega, hm, by omega, rfl, rfl, by omega, Or.inl rfl, by simp [go_sem], by simp [go_sem], by simp, (Kp.refl w).alloc _ _⟩
  case round =>
    obtain ⟨l, h, h0, h1, h2, rfl, rfl, h3, h4, c0, c1, hz, hk⟩ := hrel
    by_cases hlt : l < h
    · have HK : Hid (Kp w wr) := hk
      have H4 : Hid (h = most ∨ n < (h + 1) * b) := h4
      clear hk h4
      by_cases hc : n < (l + (h - l + 1) / 2) * b
      · have hd : decide (n < (l + (h - l + 1) / 2) * b) = true := by simpa using hc
        go_wp2
        go_region_held3 (fun w' => w'.cell? ⟨w.heap.size, 0, none⟩ = some (.int .u64 p) ∧ w'.cell? ⟨w.heap.size, 1, none⟩ = some (.int .u64 q) ∧ w.heap.size < w'.heap.size) (first | exact ⟨c0, c1, hz⟩ | exact box_alloc ⟨c0, c1, hz⟩ _ | exact box_alloc (box_alloc (box_alloc ⟨c0, c1, hz⟩ _) _) _)
          (first
            | (go_at_call 122; refine (times_any (l + (h - l + 1) / 2) b _ (by omega) (by omega) (by omega) (by omega)).mono ?_; rintro e w' ⟨rfl, o1, rfl⟩)
            | (go_at_call 153; refine (less_at n ((l + (h - l + 1) / 2) * b) p q HP.out HQ.out _).mono ?_; rintro e w' ⟨rfl, o2, o3, rfl⟩))
        go_wp2
        go_roundw
        case rel =>
          obtain ⟨d0, d1, dz⟩ := box_alloc (box_alloc (box_alloc ⟨c0, c1, hz⟩ (.cells o1 157)) (.cells o2 157)) (.cells o3 157)
          exact ⟨l, l + (h - l + 1) / 2 - 1, h0, by omega, by omega, rfl, rfl, h3, Or.inr (by rw [Int.sub_add_cancel]; exact hc), d0, d1, dz, (((HK.out.alloc _ _).alloc _ _).alloc _ _).drew⟩
        case measure => simp [intOf]; omega
      · have hd : decide (n < (l + (h - l + 1) / 2) * b) = false := by simpa using hc
        go_wp2
        go_region_held3 (fun w' => w'.cell? ⟨w.heap.size, 0, none⟩ = some (.int .u64 p) ∧ w'.cell? ⟨w.heap.size, 1, none⟩ = some (.int .u64 q) ∧ w.heap.size < w'.heap.size) (first | exact ⟨c0, c1, hz⟩ | exact box_alloc ⟨c0, c1, hz⟩ _ | exact box_alloc (box_alloc (box_alloc ⟨c0, c1, hz⟩ _) _) _)
          (first
            | (go_at_call 122; refine (times_any (l + (h - l + 1) / 2) b _ (by omega) (by omega) (by omega) (by omega)).mono ?_; rintro e w' ⟨rfl, o1, rfl⟩)
            | (go_at_call 153; refine (less_at n ((l + (h - l + 1) / 2) * b) p q HP.out HQ.out _).mono ?_; rintro e w' ⟨rfl, o2, o3, rfl⟩))
        go_wp2
        go_roundw
        case rel =>
          obtain ⟨d0, d1, dz⟩ := box_alloc (box_alloc (box_alloc ⟨c0, c1, hz⟩ (.cells o1 157)) (.cells o2 157)) (.cells o3 157)
          exact ⟨l + (h - l + 1) / 2, h, by omega, by omega, h2, rfl, rfl, by omega, H4.out, d0, d1, dz, (((HK.out.alloc _ _).alloc _ _).alloc _ _).drew⟩
        case measure => simp [intOf]; omega
    · obtain rfl : l = h := by omega
      have HK : Hid (Kp w wr) := hk
      have H4 : Hid (l = most ∨ n < (l + 1) * b) := h4
      clear hk h4
      go_wp2
      go_ret
      exact ⟨l, rfl, h0, h2, h3, H4.out, HK.out⟩
end Go.Proofs.Ytfdjjbgcaojcnaa
