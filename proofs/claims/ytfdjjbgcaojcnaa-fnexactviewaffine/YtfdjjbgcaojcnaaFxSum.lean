/-
  What the specification's l1Sum answers, for numbers of two words within the bounds named in its theorem.
-/
import Derived.Test.YtfdjjbgcaojcnaaFxWide
namespace Go.Proofs.Ytfdjjbgcaojcnaa
open Go.ChangeShapes Go.WideShapes Go.ChangeAt Go.RowKit

set_option maxHeartbeats 1000000 in
theorem sum_any (n m : Int) (w : World) (hn : 0 ≤ n) (hn' : n < 85070591730234615865843651857942052864) (hm : 0 ≤ m) (hm' : m < 85070591730234615865843651857942052864) :
    Calls Try.prog 143 #[.agg #[.int .u64 (n / 18446744073709551616), .int .u64 (n % 18446744073709551616)], .agg #[.int .u64 (m / 18446744073709551616), .int .u64 (m % 18446744073709551616)]] w fun e w' => e = .returned (.agg #[.int .u64 ((n + m) / 18446744073709551616), .int .u64 ((n + m) % 18446744073709551616)]) ∧ Kp w w' := by
  have e1 : (n + m) / 18446744073709551616 = (n / 18446744073709551616 * 18446744073709551616 + n % 18446744073709551616 + m % 18446744073709551616) / 18446744073709551616 + m / 18446744073709551616 := by omega
  have e2 : (n + m) % 18446744073709551616 = (n / 18446744073709551616 * 18446744073709551616 + n % 18446744073709551616 + m % 18446744073709551616) % 18446744073709551616 := by omega
  have b1 : 0 ≤ n / 18446744073709551616 := by omega
  have b2 : n / 18446744073709551616 < 4611686018427387904 := by omega
  have b3 : 0 ≤ n % 18446744073709551616 := by omega
  have b4 : n % 18446744073709551616 < 18446744073709551616 := by omega
  have b5 : 0 ≤ m / 18446744073709551616 := by omega
  have b6 : m / 18446744073709551616 < 4611686018427387904 := by omega
  have b7 : 0 ≤ m % 18446744073709551616 := by omega
  have b8 : m % 18446744073709551616 < 18446744073709551616 := by omega
  rw [e1, e2]; clear e1 e2 hn hn' hm hm'
  generalize n / 18446744073709551616 = p at *
  generalize n % 18446744073709551616 = q at *
  generalize m / 18446744073709551616 = r at *
  generalize m % 18446744073709551616 = s at *
  have c1 : 0 ≤ (p * 18446744073709551616 + q + s) / 18446744073709551616 := by omega
  have c2 : (p * 18446744073709551616 + q + s) / 18446744073709551616 < 9223372036854775808 := by omega
  generalize hu : (p * 18446744073709551616 + q + s) / 18446744073709551616 = u at *
  generalize hv : (p * 18446744073709551616 + q + s) % 18446744073709551616 = v at *
  have HU : Hid (_ = u) := hu
  have HV : Hid (_ = v) := hv
  clear hu hv
  go_enter Try.func143, Try.ntmps143
  go_wp2_with fail
  refine (plus_any _ _ _ _ (by omega) (by omega) (by omega) (by omega) (by omega) (by omega)).mono ?_
  rintro e w1 ⟨rfl, hk⟩
  rw [HU.out, HV.out]
  obtain ⟨hc, hf⟩ := hk.cells
  have hz : w.heap.size + 3 ≤ w1.heap.size := by have := hk.size; simp at this; omega
  have c00 : w1.cell? ⟨w.heap.size, 0, none⟩ = some (.int .u64 p) := by rw [hc _ _ (by simp <;> omega)]; simp [go_sem]
  have c01 : w1.cell? ⟨w.heap.size, 1, none⟩ = some (.int .u64 q) := by rw [hc _ _ (by simp <;> omega)]; simp [go_sem]
  have c10 : w1.cell? ⟨w.heap.size + 1, 0, none⟩ = some (.int .u64 r) := by rw [hc _ _ (by simp <;> omega)]; simp [go_sem]
  have c11 : w1.cell? ⟨w.heap.size + 1, 1, none⟩ = some (.int .u64 s) := by rw [hc _ _ (by simp <;> omega)]; simp [go_sem]
  have c20 : w1.cell? ⟨w.heap.size + 1 + 1, 0, none⟩ = some (.int .u64 0) := by rw [hc _ _ (by simp <;> omega)]; simp [go_sem]
  have c21 : w1.cell? ⟨w.heap.size + 1 + 1, 1, none⟩ = some (.int .u64 0) := by rw [hc _ _ (by simp <;> omega)]; simp [go_sem]
  have f0 : ∀ o, w1.frozen? ⟨w.heap.size, o, none⟩ = false := by intro o; rw [hf]; simp [go_sem]
  have f2 : ∀ o, w1.frozen? ⟨w.heap.size + 1 + 1, o, none⟩ = false := by intro o; rw [hf]; simp [go_sem]
  have HK : Hid (Kp w w1) := ((((Kp.refl w).alloc _ _).alloc _ _).alloc _ _).trans hk
  clear hc hf hk
  go_wp2
  simp [bodyPost, results, Try.results143, go_sem, c20, c21]
  exact ((((HK.out.setCell (by simp) _).setCell (by simp) _).setCell (by simp) _).setCell (by simp <;> omega) _).setCell (by simp <;> omega) _
end Go.Proofs.Ytfdjjbgcaojcnaa
