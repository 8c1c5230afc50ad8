/-
  MulAffine of the program, its statement of twelve products run whole; no condition.
-/
import Derived.Test.YtfodmjdhpolnkaaAfMulI
namespace Go.Proofs.Ytfodmjdhpolnkaa
open Go.ChangeShapes Go.WideShapes Go.ChangeAt Go.RowKit
set_option linter.unusedVariables false

theorem all_of_ready {ops : Array Oper} {md : Region.Mode} {listed : Array Bool} (h : (List.range ops.size).all (fun i => ((ops[i]?).map (fun o => o.after.all fun e => !Region.binds md e || decide (e.on < i))).getD true) = true) (hs : listed.size = ops.size) (hr : Region.ready md ops listed = []) : ∀ i, i < ops.size → listed.getD i false = true := by
  intro i
  induction i using Nat.strongRecOn with
  | _ i ih =>
    intro hi
    cases hl : listed.getD i false with
    | true => rfl
    | false =>
      exfalso
      have hlt : i < listed.size := by rw [hs]; exact hi
      have hl2 : listed.getD i true = false := by
        rw [Array.getD_eq_getD_getElem?, Array.getElem?_eq_getElem hlt] at hl ⊢; exact hl
      have ho : ops[i]? = some ops[i] := Array.getElem?_eq_getElem hi
      have hm : i ∈ Region.ready md ops listed := mem_ready.2 ⟨hl2, ops[i], ho, fun e he hb => by
        have h1 := List.all_eq_true.1 h i (List.mem_range.2 hi)
        rw [ho] at h1
        simp only [Option.map_some, Option.getD_some] at h1
        have h2 := (Array.all_eq_true_iff_forall_mem.1 h1) e he
        rw [hb] at h2
        simp at h2
        exact ih e.on h2 (by omega)⟩
      rw [hr] at hm
      cases hm
theorem ops_up : (List.range (opsOf 3 Try.f7).size).all (fun i => (((opsOf 3 Try.f7)[i]?).map (fun o => o.after.all fun e => !Region.binds .any e || decide (e.on < i))).getD true) = true := by kernel_rfl
set_option maxHeartbeats 4000000 in
theorem imul_yes (w : World) (a b c d e f a' b' c' d' e' f' : Int) (m : Int → Int → Int) (x0 x1 x2 x3 x4 x5 : Int) (hx0 : IntKind.i64.wrap ((m a a') + (m c b')) = x0) (hx1 : IntKind.i64.wrap ((m b a') + (m d b')) = x1) (hx2 : IntKind.i64.wrap ((m a c') + (m c d')) = x2) (hx3 : IntKind.i64.wrap ((m b c') + (m d d')) = x3) (hx4 : IntKind.i64.wrap ((IntKind.i64.wrap ((m a e') + (m c f'))) + e) = x4) (hx5 : IntKind.i64.wrap ((IntKind.i64.wrap ((m b e') + (m d f'))) + f) = x5) (hgm : gA x0 x1 x2 x3 x4 x5 = true) (hgA : gA a b c d e f = true) (hgB : gA a' b' c' d' e' f' = true) (hS : ∀ x y w, Calls Try.prog 12 #[.int .i64 x, .int .i64 y] w fun e w' => e = .returned (.int .i64 (m x y)) ∧ w' = w) :
    Calls Try.prog 7 #[affV a b c d e f, affV a' b' c' d' e' f'] w fun x w' => x = .returned (.tuple #[affV x0 x1 x2 x3 x4 x5, .bool true]) ∧ Kp w w' := by
  have HX : Hid _ := And.intro hx0 (And.intro hx1 (And.intro hx2 (And.intro hx3 (And.intro hx4 hx5))))
  clear hx0 hx1 hx2 hx3 hx4 hx5
  have HGMX : Hid _ := hgm
  clear hgm
  have HS : Hid _ := hS
  have HGA : Hid _ := fun w => igoodAff w a b c d e f
  have HGB : Hid _ := fun w => igoodAff w a' b' c' d' e' f'
  rw [hgA] at HGA
  rw [hgB] at HGB
  clear hS hgA hgB
  unfold affV at *
  go_enter Try.func7, Try.ntmps7
  go_wp2_with fail
  refine (HGA.out _).mono ?_; rintro x w1 ⟨rfl, k1⟩
  generalize hW : ((w.alloc (.cells #[.int .i64 a, .int .i64 b, .int .i64 c, .int .i64 d, .int .i64 e, .int .i64 f] 24)).alloc (.cells #[.int .i64 a', .int .i64 b', .int .i64 c', .int .i64 d', .int .i64 e', .int .i64 f'] 24)).alloc (.cells #[.int .i64 0, .int .i64 0, .int .i64 0, .int .i64 0, .int .i64 0, .int .i64 0] 24) = W at *
  have hsz : W.heap.size = w.heap.size + 3 := by rw [← hW]; simp
  have hall : W.cell? ⟨w.heap.size, 0, none⟩ = some (.int .i64 a) ∧ W.cell? ⟨w.heap.size, 1, none⟩ = some (.int .i64 b) ∧ W.cell? ⟨w.heap.size, 2, none⟩ = some (.int .i64 c) ∧ W.cell? ⟨w.heap.size, 3, none⟩ = some (.int .i64 d) ∧ W.cell? ⟨w.heap.size, 4, none⟩ = some (.int .i64 e) ∧ W.cell? ⟨w.heap.size, 5, none⟩ = some (.int .i64 f) ∧ W.cell? ⟨w.heap.size + 1, 0, none⟩ = some (.int .i64 a') ∧ W.cell? ⟨w.heap.size + 1, 1, none⟩ = some (.int .i64 b') ∧ W.cell? ⟨w.heap.size + 1, 2, none⟩ = some (.int .i64 c') ∧ W.cell? ⟨w.heap.size + 1, 3, none⟩ = some (.int .i64 d') ∧ W.cell? ⟨w.heap.size + 1, 4, none⟩ = some (.int .i64 e') ∧ W.cell? ⟨w.heap.size + 1, 5, none⟩ = some (.int .i64 f') := by
    refine ⟨?_, ?_, ?_, ?_, ?_, ?_, ?_, ?_, ?_, ?_, ?_, ?_⟩
    all_goals (rw [← hW]; first | (rw [cells3a]; rfl) | (rw [cells3b]; rfl))
  have hz : ∀ j, j < 6 → W.cell? ⟨w.heap.size + 1 + 1, j, none⟩ = some (.int .i64 0) := fun j hj => by
    rw [← hW, cells3c]
    rcases (show j = 0 ∨ j = 1 ∨ j = 2 ∨ j = 3 ∨ j = 4 ∨ j = 5 by omega) with rfl | rfl | rfl | rfl | rfl | rfl <;> rfl
  have hf : ∀ j, W.frozen? ⟨w.heap.size + 1 + 1, j, none⟩ = false := fun j => by rw [← hW, cells3f]
  have HW0 : Hid (Kp w W) := by rw [← hW]; exact kp3 w _ _ _ _
  have hall1 := keep6 w.heap.size a b c d e f a' b' c' d' e' f' (by omega) k1 hall
  have hz1 := keepZ (w.heap.size + 1 + 1) (by omega) k1 hz hf
  have HK1 : Hid (Kp w w1) := Kp.trans HW0.out k1
  have ks1 := Kp.size k1
  clear hW hall k1 hz hf HW0
  obtain ⟨B, hB⟩ : ∃ B, w.heap.size = B := ⟨_, rfl⟩
  have HBw : Hid (w.heap.size = B) := hB
  rw [hB] at hsz hall1 hz1 ⊢
  clear hB
  obtain ⟨h0, h1, h2, h3, h4, h5, g0, g1, g2, g3, g4, g5⟩ := hall1
  go_wp2_with fail
  refine (HGB.out _).mono ?_; rintro x w2 ⟨rfl, k2⟩
  have hall2 := keep6 B a b c d e f a' b' c' d' e' f' (by omega) k2 ⟨h0, h1, h2, h3, h4, h5, g0, g1, g2, g3, g4, g5⟩
  have HZ2 : Hid _ := keepZ (B + 1 + 1) (by omega) k2 hz1.1 hz1.2
  have ks2 := Kp.size k2
  have HK2 : Hid (Kp w w2) := Kp.trans HK1.out k2
  have HS2 : Hid _ := hall2
  have HB2 : Hid (B + 1 + 1 < w2.heap.size) := (show _ < _ by omega)
  clear k2 h0 h1 h2 h3 h4 h5 g0 g1 g2 g3 g4 g5 hall2 hz1 hsz ks1 ks2 HK1
  go_wp2_with fail
  refine reg_change (ops' := (opsOf 3 Try.f7)) (by kernel_rfl) ?_
  refine MX.run ⟨m, a, b, c, d, e, f, a', b', c', d', e', f', B, w2.drew, ⟨(List.toArray ((affV a b c d e f) :: (affV a' b' c' d' e' f') :: (.pointer (some ⟨B, 0, none⟩)) :: (.pointer (some ⟨B + 1, 0, none⟩)) :: (.pointer (some ⟨B + 1 + 1, 0, none⟩)) :: (.bool false) :: undef :: (affV a b c d e f) :: (.bool true) :: (.bool false) :: (.bool false) :: (affV a' b' c' d' e' f') :: (.bool true) :: (.bool false) :: (.bool false) :: undef :: undef :: undef :: undef :: undef :: undef :: undef :: undef :: undef :: undef :: undef :: undef :: undef :: undef :: undef :: undef :: undef :: undef :: undef :: undef :: undef :: undef :: undef :: undef :: undef :: undef :: undef :: undef :: undef :: undef :: undef :: undef :: undef :: undef :: undef :: undef :: undef :: undef :: undef :: undef :: undef :: undef :: undef :: undef :: undef :: undef :: undef :: undef :: undef :: undef :: undef :: undef :: undef :: undef :: undef :: undef :: undef :: undef :: undef :: undef :: undef :: undef :: undef :: undef :: undef :: undef :: undef :: undef :: undef :: undef :: undef :: undef :: undef :: undef :: undef :: undef :: undef :: undef :: undef :: [])), []⟩⟩ ?ok ?hend w2 rfl
  case ok =>
    obtain ⟨h0, h1, h2, h3, h4, h5, g0, g1, g2, g3, g4, g5⟩ := HS2.out
    exact ⟨(show B + 1 < w2.heap.size by have := HB2.out; omega), h0, h1, h2, h3, h4, h5, g0, g1, g2, g3, g4, g5, rfl, rfl, rfl, HS.out⟩
  case hend =>
    intro listed act hI hr
    have hall := all_of_ready ops_up hI.1.size hr
    have hfr := hI.1.fin hall
    have hwd : MX.wd ⟨m, a, b, c, d, e, f, a', b', c', d', e', f', B, w2.drew, ⟨(List.toArray ((affV a b c d e f) :: (affV a' b' c' d' e' f') :: (.pointer (some ⟨B, 0, none⟩)) :: (.pointer (some ⟨B + 1, 0, none⟩)) :: (.pointer (some ⟨B + 1 + 1, 0, none⟩)) :: (.bool false) :: undef :: (affV a b c d e f) :: (.bool true) :: (.bool false) :: (.bool false) :: (affV a' b' c' d' e' f') :: (.bool true) :: (.bool false) :: (.bool false) :: undef :: undef :: undef :: undef :: undef :: undef :: undef :: undef :: undef :: undef :: undef :: undef :: undef :: undef :: undef :: undef :: undef :: undef :: undef :: undef :: undef :: undef :: undef :: undef :: undef :: undef :: undef :: undef :: undef :: undef :: undef :: undef :: undef :: undef :: undef :: undef :: undef :: undef :: undef :: undef :: undef :: undef :: undef :: undef :: undef :: undef :: undef :: undef :: undef :: undef :: undef :: undef :: undef :: undef :: undef :: undef :: undef :: undef :: undef :: undef :: undef :: undef :: undef :: undef :: undef :: undef :: undef :: undef :: undef :: undef :: undef :: undef :: undef :: undef :: undef :: undef :: undef :: undef :: undef :: [])), []⟩⟩ listed = w2.drew.alloc (.cells #[.int .i64 (IntKind.i64.wrap ((m a a') + (m c b'))), .int .i64 (IntKind.i64.wrap ((m b a') + (m d b'))), .int .i64 (IntKind.i64.wrap ((m a c') + (m c d'))), .int .i64 (IntKind.i64.wrap ((m b c') + (m d d'))), .int .i64 (IntKind.i64.wrap ((IntKind.i64.wrap ((m a e') + (m c f'))) + e)), .int .i64 (IntKind.i64.wrap ((IntKind.i64.wrap ((m b e') + (m d f'))) + f))] 24) := by
      unfold MX.wd
      rw [hall 74 (by rw [ops_size]; decide)]
      rfl
    rw [hwd]
    have hlit : act = ⟨(List.toArray ((affV a b c d e f) :: (affV a' b' c' d' e' f') :: (.pointer (some ⟨B, 0, none⟩)) :: (.pointer (some ⟨B + 1, 0, none⟩)) :: (.pointer (some ⟨B + 1 + 1, 0, none⟩)) :: (.bool false) :: (.pointer (some ⟨w2.heap.size, 0, none⟩)) :: (affV a b c d e f) :: (.bool true) :: (.bool false) :: (.bool false) :: (affV a' b' c' d' e' f') :: (.bool true) :: (.bool false) :: (.bool false) :: undef :: (.pointer (some ⟨B, 0, none⟩)) :: (.int .i64 a) :: (.pointer (some ⟨B + 1, 0, none⟩)) :: (.int .i64 a') :: (.int .i64 (m a a')) :: (.pointer (some ⟨B, 2, none⟩)) :: (.int .i64 c) :: (.pointer (some ⟨B + 1, 1, none⟩)) :: (.int .i64 b') :: (.int .i64 (m c b')) :: (.int .i64 (IntKind.i64.wrap ((m a a') + (m c b')))) :: (.pointer (some ⟨B, 1, none⟩)) :: (.int .i64 b) :: (.pointer (some ⟨B + 1, 0, none⟩)) :: (.int .i64 a') :: (.int .i64 (m b a')) :: (.pointer (some ⟨B, 3, none⟩)) :: (.int .i64 d) :: (.pointer (some ⟨B + 1, 1, none⟩)) :: (.int .i64 b') :: (.int .i64 (m d b')) :: (.int .i64 (IntKind.i64.wrap ((m b a') + (m d b')))) :: (.pointer (some ⟨B, 0, none⟩)) :: (.int .i64 a) :: (.pointer (some ⟨B + 1, 2, none⟩)) :: (.int .i64 c') :: (.int .i64 (m a c')) :: (.pointer (some ⟨B, 2, none⟩)) :: (.int .i64 c) :: (.pointer (some ⟨B + 1, 3, none⟩)) :: (.int .i64 d') :: (.int .i64 (m c d')) :: (.int .i64 (IntKind.i64.wrap ((m a c') + (m c d')))) :: (.pointer (some ⟨B, 1, none⟩)) :: (.int .i64 b) :: (.pointer (some ⟨B + 1, 2, none⟩)) :: (.int .i64 c') :: (.int .i64 (m b c')) :: (.pointer (some ⟨B, 3, none⟩)) :: (.int .i64 d) :: (.pointer (some ⟨B + 1, 3, none⟩)) :: (.int .i64 d') :: (.int .i64 (m d d')) :: (.int .i64 (IntKind.i64.wrap ((m b c') + (m d d')))) :: (.pointer (some ⟨B, 0, none⟩)) :: (.int .i64 a) :: (.pointer (some ⟨B + 1, 4, none⟩)) :: (.int .i64 e') :: (.int .i64 (m a e')) :: (.pointer (some ⟨B, 2, none⟩)) :: (.int .i64 c) :: (.pointer (some ⟨B + 1, 5, none⟩)) :: (.int .i64 f') :: (.int .i64 (m c f')) :: (.int .i64 (IntKind.i64.wrap ((m a e') + (m c f')))) :: (.pointer (some ⟨B, 4, none⟩)) :: (.int .i64 e) :: (.int .i64 (IntKind.i64.wrap ((IntKind.i64.wrap ((m a e') + (m c f'))) + e))) :: (.pointer (some ⟨B, 1, none⟩)) :: (.int .i64 b) :: (.pointer (some ⟨B + 1, 4, none⟩)) :: (.int .i64 e') :: (.int .i64 (m b e')) :: (.pointer (some ⟨B, 3, none⟩)) :: (.int .i64 d) :: (.pointer (some ⟨B + 1, 5, none⟩)) :: (.int .i64 f') :: (.int .i64 (m d f')) :: (.int .i64 (IntKind.i64.wrap ((m b e') + (m d f')))) :: (.pointer (some ⟨B, 5, none⟩)) :: (.int .i64 f) :: (.int .i64 (IntKind.i64.wrap ((IntKind.i64.wrap ((m b e') + (m d f'))) + f))) :: (affV (IntKind.i64.wrap ((m a a') + (m c b'))) (IntKind.i64.wrap ((m b a') + (m d b'))) (IntKind.i64.wrap ((m a c') + (m c d'))) (IntKind.i64.wrap ((m b c') + (m d d'))) (IntKind.i64.wrap ((IntKind.i64.wrap ((m a e') + (m c f'))) + e)) (IntKind.i64.wrap ((IntKind.i64.wrap ((m b e') + (m d f'))) + f))) :: undef :: undef :: undef :: undef :: undef :: [])), []⟩ := hfr.trans (by kernel_rfl)
    rw [hlit]
    clear hlit hfr hall hwd hr hI listed act
    clear HS HGA HGB HS2
    obtain ⟨hx0, hx1, hx2, hx3, hx4, hx5⟩ := HX.out
    rw [hx0, hx1, hx2, hx3, hx4, hx5]
    clear hx0 hx1 hx2 hx3 hx4 hx5 HX
    have HGM : Hid _ := fun w => igoodAff w x0 x1 x2 x3 x4 x5
    rw [HGMX.out] at HGM
    unfold affV at HGM ⊢
    obtain ⟨N, hN⟩ : ∃ N, w2.heap.size = N := ⟨_, rfl⟩
    generalize hW3 : w2.drew.alloc (.cells #[.int .i64 x0, .int .i64 x1, .int .i64 x2, .int .i64 x3, .int .i64 x4, .int .i64 x5] 24) = w3
    have m3 : ∀ o, w3.cell? ⟨w2.heap.size, o, none⟩ = (#[.int .i64 x0, .int .i64 x1, .int .i64 x2, .int .i64 x3, .int .i64 x4, .int .i64 x5] : Array Value)[o]? := fun o => by rw [← hW3]; exact World.cell?_alloc_at _ _ _ _ rfl
    have k3 : Kp w2 w3 := by rw [← hW3]; exact ((Kp.refl w2).drew).alloc _ _
    have hz3 := keepZ (B + 1 + 1) HB2.out k3 HZ2.out.1 HZ2.out.2
    have HK3 : Hid (Kp w w3) := Kp.trans HK2.out k3
    have HB3 : Hid (B + 1 + 1 < w3.heap.size) := (show _ < _ by have := HB2.out; have := Kp.size k3; omega)
    rw [hN] at m3 ⊢
    have m0 : w3.cell? ⟨N, 0, none⟩ = some (.int .i64 x0) := m3 0
    have m1 : w3.cell? ⟨N, 1, none⟩ = some (.int .i64 x1) := m3 1
    have m2 : w3.cell? ⟨N, 2, none⟩ = some (.int .i64 x2) := m3 2
    have m3' : w3.cell? ⟨N, 3, none⟩ = some (.int .i64 x3) := m3 3
    have m4 : w3.cell? ⟨N, 4, none⟩ = some (.int .i64 x4) := m3 4
    have m5 : w3.cell? ⟨N, 5, none⟩ = some (.int .i64 x5) := m3 5
    have HN3 : Hid (N < w3.heap.size) := World.block_lt_of_cell? w3 ⟨N, 0, none⟩ m0
    clear hW3 m3 k3 HZ2 HK2 HB2 hN
    have HZ3 : Hid _ := hz3
    clear hz3
    go_wp2_with fail
    refine (HGM.out _).mono ?_; rintro x w4 ⟨rfl, k4⟩
    have kc := (Kp.cells k4).1
    have n0 := (kc N 0 HN3.out).trans m0
    have n1 := (kc N 1 HN3.out).trans m1
    have n2 := (kc N 2 HN3.out).trans m2
    have n3 := (kc N 3 HN3.out).trans m3'
    have n4 := (kc N 4 HN3.out).trans m4
    have n5 := (kc N 5 HN3.out).trans m5
    obtain ⟨hz, hf⟩ := keepZ (B + 1 + 1) HB3.out k4 HZ3.out.1 HZ3.out.2
    have HK4 : Hid (Kp w w4) := Kp.trans HK3.out k4
    have hBw : Hid (w.heap.size ≤ B + 1 + 1) := (show _ ≤ _ by have := HBw.out; omega)
    clear k4 kc m0 m1 m2 m3' m4 m5
    go_wp2
    obtain ⟨y0, y1, y2, y3, y4, y5⟩ := six_set w4 (B + 1 + 1) (.int .i64 x0) (.int .i64 x1) (.int .i64 x2) (.int .i64 x3) (.int .i64 x4) (.int .i64 x5) hz
    refine bodyPost_ret (v := .tuple #[affV x0 x1 x2 x3 x4 x5, .bool true]) (by simp [results, Try.results7, go_sem, y0, y1, y2, y3, y4, y5]) rfl ⟨rfl, ?_⟩
    exact (((((HK4.out.setCell hBw.out _).setCell hBw.out _).setCell hBw.out _).setCell hBw.out _).setCell hBw.out _).setCell hBw.out _
set_option maxHeartbeats 4000000 in
theorem imul_no (w : World) (a b c d e f a' b' c' d' e' f' : Int) (m : Int → Int → Int) (x0 x1 x2 x3 x4 x5 : Int) (hx0 : IntKind.i64.wrap ((m a a') + (m c b')) = x0) (hx1 : IntKind.i64.wrap ((m b a') + (m d b')) = x1) (hx2 : IntKind.i64.wrap ((m a c') + (m c d')) = x2) (hx3 : IntKind.i64.wrap ((m b c') + (m d d')) = x3) (hx4 : IntKind.i64.wrap ((IntKind.i64.wrap ((m a e') + (m c f'))) + e) = x4) (hx5 : IntKind.i64.wrap ((IntKind.i64.wrap ((m b e') + (m d f'))) + f) = x5) (hgm : gA x0 x1 x2 x3 x4 x5 = false) (hgA : gA a b c d e f = true) (hgB : gA a' b' c' d' e' f' = true) (hS : ∀ x y w, Calls Try.prog 12 #[.int .i64 x, .int .i64 y] w fun e w' => e = .returned (.int .i64 (m x y)) ∧ w' = w) :
    Calls Try.prog 7 #[affV a b c d e f, affV a' b' c' d' e' f'] w fun x w' => x = .returned (.tuple #[affV 0 0 0 0 0 0, .bool false]) ∧ Kp w w' := by
  have HX : Hid _ := And.intro hx0 (And.intro hx1 (And.intro hx2 (And.intro hx3 (And.intro hx4 hx5))))
  clear hx0 hx1 hx2 hx3 hx4 hx5
  have HGMX : Hid _ := hgm
  clear hgm
  have HS : Hid _ := hS
  have HGA : Hid _ := fun w => igoodAff w a b c d e f
  have HGB : Hid _ := fun w => igoodAff w a' b' c' d' e' f'
  rw [hgA] at HGA
  rw [hgB] at HGB
  clear hS hgA hgB
  unfold affV at *
  go_enter Try.func7, Try.ntmps7
  go_wp2_with fail
  refine (HGA.out _).mono ?_; rintro x w1 ⟨rfl, k1⟩
  generalize hW : ((w.alloc (.cells #[.int .i64 a, .int .i64 b, .int .i64 c, .int .i64 d, .int .i64 e, .int .i64 f] 24)).alloc (.cells #[.int .i64 a', .int .i64 b', .int .i64 c', .int .i64 d', .int .i64 e', .int .i64 f'] 24)).alloc (.cells #[.int .i64 0, .int .i64 0, .int .i64 0, .int .i64 0, .int .i64 0, .int .i64 0] 24) = W at *
  have hsz : W.heap.size = w.heap.size + 3 := by rw [← hW]; simp
  have hall : W.cell? ⟨w.heap.size, 0, none⟩ = some (.int .i64 a) ∧ W.cell? ⟨w.heap.size, 1, none⟩ = some (.int .i64 b) ∧ W.cell? ⟨w.heap.size, 2, none⟩ = some (.int .i64 c) ∧ W.cell? ⟨w.heap.size, 3, none⟩ = some (.int .i64 d) ∧ W.cell? ⟨w.heap.size, 4, none⟩ = some (.int .i64 e) ∧ W.cell? ⟨w.heap.size, 5, none⟩ = some (.int .i64 f) ∧ W.cell? ⟨w.heap.size + 1, 0, none⟩ = some (.int .i64 a') ∧ W.cell? ⟨w.heap.size + 1, 1, none⟩ = some (.int .i64 b') ∧ W.cell? ⟨w.heap.size + 1, 2, none⟩ = some (.int .i64 c') ∧ W.cell? ⟨w.heap.size + 1, 3, none⟩ = some (.int .i64 d') ∧ W.cell? ⟨w.heap.size + 1, 4, none⟩ = some (.int .i64 e') ∧ W.cell? ⟨w.heap.size + 1, 5, none⟩ = some (.int .i64 f') := by
    refine ⟨?_, ?_, ?_, ?_, ?_, ?_, ?_, ?_, ?_, ?_, ?_, ?_⟩
    all_goals (rw [← hW]; first | (rw [cells3a]; rfl) | (rw [cells3b]; rfl))
  have hz : ∀ j, j < 6 → W.cell? ⟨w.heap.size + 1 + 1, j, none⟩ = some (.int .i64 0) := fun j hj => by
    rw [← hW, cells3c]
    rcases (show j = 0 ∨ j = 1 ∨ j = 2 ∨ j = 3 ∨ j = 4 ∨ j = 5 by omega) with rfl | rfl | rfl | rfl | rfl | rfl <;> rfl
  have hf : ∀ j, W.frozen? ⟨w.heap.size + 1 + 1, j, none⟩ = false := fun j => by rw [← hW, cells3f]
  have HW0 : Hid (Kp w W) := by rw [← hW]; exact kp3 w _ _ _ _
  have hall1 := keep6 w.heap.size a b c d e f a' b' c' d' e' f' (by omega) k1 hall
  have hz1 := keepZ (w.heap.size + 1 + 1) (by omega) k1 hz hf
  have HK1 : Hid (Kp w w1) := Kp.trans HW0.out k1
  have ks1 := Kp.size k1
  clear hW hall k1 hz hf HW0
  obtain ⟨B, hB⟩ : ∃ B, w.heap.size = B := ⟨_, rfl⟩
  have HBw : Hid (w.heap.size = B) := hB
  rw [hB] at hsz hall1 hz1 ⊢
  clear hB
  obtain ⟨h0, h1, h2, h3, h4, h5, g0, g1, g2, g3, g4, g5⟩ := hall1
  go_wp2_with fail
  refine (HGB.out _).mono ?_; rintro x w2 ⟨rfl, k2⟩
  have hall2 := keep6 B a b c d e f a' b' c' d' e' f' (by omega) k2 ⟨h0, h1, h2, h3, h4, h5, g0, g1, g2, g3, g4, g5⟩
  have HZ2 : Hid _ := keepZ (B + 1 + 1) (by omega) k2 hz1.1 hz1.2
  have ks2 := Kp.size k2
  have HK2 : Hid (Kp w w2) := Kp.trans HK1.out k2
  have HS2 : Hid _ := hall2
  have HB2 : Hid (B + 1 + 1 < w2.heap.size) := (show _ < _ by omega)
  clear k2 h0 h1 h2 h3 h4 h5 g0 g1 g2 g3 g4 g5 hall2 hz1 hsz ks1 ks2 HK1
  go_wp2_with fail
  refine reg_change (ops' := (opsOf 3 Try.f7)) (by kernel_rfl) ?_
  refine MX.run ⟨m, a, b, c, d, e, f, a', b', c', d', e', f', B, w2.drew, ⟨(List.toArray ((affV a b c d e f) :: (affV a' b' c' d' e' f') :: (.pointer (some ⟨B, 0, none⟩)) :: (.pointer (some ⟨B + 1, 0, none⟩)) :: (.pointer (some ⟨B + 1 + 1, 0, none⟩)) :: (.bool false) :: undef :: (affV a b c d e f) :: (.bool true) :: (.bool false) :: (.bool false) :: (affV a' b' c' d' e' f') :: (.bool true) :: (.bool false) :: (.bool false) :: undef :: undef :: undef :: undef :: undef :: undef :: undef :: undef :: undef :: undef :: undef :: undef :: undef :: undef :: undef :: undef :: undef :: undef :: undef :: undef :: undef :: undef :: undef :: undef :: undef :: undef :: undef :: undef :: undef :: undef :: undef :: undef :: undef :: undef :: undef :: undef :: undef :: undef :: undef :: undef :: undef :: undef :: undef :: undef :: undef :: undef :: undef :: undef :: undef :: undef :: undef :: undef :: undef :: undef :: undef :: undef :: undef :: undef :: undef :: undef :: undef :: undef :: undef :: undef :: undef :: undef :: undef :: undef :: undef :: undef :: undef :: undef :: undef :: undef :: undef :: undef :: undef :: undef :: undef :: [])), []⟩⟩ ?ok ?hend w2 rfl
  case ok =>
    obtain ⟨h0, h1, h2, h3, h4, h5, g0, g1, g2, g3, g4, g5⟩ := HS2.out
    exact ⟨(show B + 1 < w2.heap.size by have := HB2.out; omega), h0, h1, h2, h3, h4, h5, g0, g1, g2, g3, g4, g5, rfl, rfl, rfl, HS.out⟩
  case hend =>
    intro listed act hI hr
    have hall := all_of_ready ops_up hI.1.size hr
    have hfr := hI.1.fin hall
    have hwd : MX.wd ⟨m, a, b, c, d, e, f, a', b', c', d', e', f', B, w2.drew, ⟨(List.toArray ((affV a b c d e f) :: (affV a' b' c' d' e' f') :: (.pointer (some ⟨B, 0, none⟩)) :: (.pointer (some ⟨B + 1, 0, none⟩)) :: (.pointer (some ⟨B + 1 + 1, 0, none⟩)) :: (.bool false) :: undef :: (affV a b c d e f) :: (.bool true) :: (.bool false) :: (.bool false) :: (affV a' b' c' d' e' f') :: (.bool true) :: (.bool false) :: (.bool false) :: undef :: undef :: undef :: undef :: undef :: undef :: undef :: undef :: undef :: undef :: undef :: undef :: undef :: undef :: undef :: undef :: undef :: undef :: undef :: undef :: undef :: undef :: undef :: undef :: undef :: undef :: undef :: undef :: undef :: undef :: undef :: undef :: undef :: undef :: undef :: undef :: undef :: undef :: undef :: undef :: undef :: undef :: undef :: undef :: undef :: undef :: undef :: undef :: undef :: undef :: undef :: undef :: undef :: undef :: undef :: undef :: undef :: undef :: undef :: undef :: undef :: undef :: undef :: undef :: undef :: undef :: undef :: undef :: undef :: undef :: undef :: undef :: undef :: undef :: undef :: undef :: undef :: undef :: undef :: [])), []⟩⟩ listed = w2.drew.alloc (.cells #[.int .i64 (IntKind.i64.wrap ((m a a') + (m c b'))), .int .i64 (IntKind.i64.wrap ((m b a') + (m d b'))), .int .i64 (IntKind.i64.wrap ((m a c') + (m c d'))), .int .i64 (IntKind.i64.wrap ((m b c') + (m d d'))), .int .i64 (IntKind.i64.wrap ((IntKind.i64.wrap ((m a e') + (m c f'))) + e)), .int .i64 (IntKind.i64.wrap ((IntKind.i64.wrap ((m b e') + (m d f'))) + f))] 24) := by
      unfold MX.wd
      rw [hall 74 (by rw [ops_size]; decide)]
      rfl
    rw [hwd]
    have hlit : act = ⟨(List.toArray ((affV a b c d e f) :: (affV a' b' c' d' e' f') :: (.pointer (some ⟨B, 0, none⟩)) :: (.pointer (some ⟨B + 1, 0, none⟩)) :: (.pointer (some ⟨B + 1 + 1, 0, none⟩)) :: (.bool false) :: (.pointer (some ⟨w2.heap.size, 0, none⟩)) :: (affV a b c d e f) :: (.bool true) :: (.bool false) :: (.bool false) :: (affV a' b' c' d' e' f') :: (.bool true) :: (.bool false) :: (.bool false) :: undef :: (.pointer (some ⟨B, 0, none⟩)) :: (.int .i64 a) :: (.pointer (some ⟨B + 1, 0, none⟩)) :: (.int .i64 a') :: (.int .i64 (m a a')) :: (.pointer (some ⟨B, 2, none⟩)) :: (.int .i64 c) :: (.pointer (some ⟨B + 1, 1, none⟩)) :: (.int .i64 b') :: (.int .i64 (m c b')) :: (.int .i64 (IntKind.i64.wrap ((m a a') + (m c b')))) :: (.pointer (some ⟨B, 1, none⟩)) :: (.int .i64 b) :: (.pointer (some ⟨B + 1, 0, none⟩)) :: (.int .i64 a') :: (.int .i64 (m b a')) :: (.pointer (some ⟨B, 3, none⟩)) :: (.int .i64 d) :: (.pointer (some ⟨B + 1, 1, none⟩)) :: (.int .i64 b') :: (.int .i64 (m d b')) :: (.int .i64 (IntKind.i64.wrap ((m b a') + (m d b')))) :: (.pointer (some ⟨B, 0, none⟩)) :: (.int .i64 a) :: (.pointer (some ⟨B + 1, 2, none⟩)) :: (.int .i64 c') :: (.int .i64 (m a c')) :: (.pointer (some ⟨B, 2, none⟩)) :: (.int .i64 c) :: (.pointer (some ⟨B + 1, 3, none⟩)) :: (.int .i64 d') :: (.int .i64 (m c d')) :: (.int .i64 (IntKind.i64.wrap ((m a c') + (m c d')))) :: (.pointer (some ⟨B, 1, none⟩)) :: (.int .i64 b) :: (.pointer (some ⟨B + 1, 2, none⟩)) :: (.int .i64 c') :: (.int .i64 (m b c')) :: (.pointer (some ⟨B, 3, none⟩)) :: (.int .i64 d) :: (.pointer (some ⟨B + 1, 3, none⟩)) :: (.int .i64 d') :: (.int .i64 (m d d')) :: (.int .i64 (IntKind.i64.wrap ((m b c') + (m d d')))) :: (.pointer (some ⟨B, 0, none⟩)) :: (.int .i64 a) :: (.pointer (some ⟨B + 1, 4, none⟩)) :: (.int .i64 e') :: (.int .i64 (m a e')) :: (.pointer (some ⟨B, 2, none⟩)) :: (.int .i64 c) :: (.pointer (some ⟨B + 1, 5, none⟩)) :: (.int .i64 f') :: (.int .i64 (m c f')) :: (.int .i64 (IntKind.i64.wrap ((m a e') + (m c f')))) :: (.pointer (some ⟨B, 4, none⟩)) :: (.int .i64 e) :: (.int .i64 (IntKind.i64.wrap ((IntKind.i64.wrap ((m a e') + (m c f'))) + e))) :: (.pointer (some ⟨B, 1, none⟩)) :: (.int .i64 b) :: (.pointer (some ⟨B + 1, 4, none⟩)) :: (.int .i64 e') :: (.int .i64 (m b e')) :: (.pointer (some ⟨B, 3, none⟩)) :: (.int .i64 d) :: (.pointer (some ⟨B + 1, 5, none⟩)) :: (.int .i64 f') :: (.int .i64 (m d f')) :: (.int .i64 (IntKind.i64.wrap ((m b e') + (m d f')))) :: (.pointer (some ⟨B, 5, none⟩)) :: (.int .i64 f) :: (.int .i64 (IntKind.i64.wrap ((IntKind.i64.wrap ((m b e') + (m d f'))) + f))) :: (affV (IntKind.i64.wrap ((m a a') + (m c b'))) (IntKind.i64.wrap ((m b a') + (m d b'))) (IntKind.i64.wrap ((m a c') + (m c d'))) (IntKind.i64.wrap ((m b c') + (m d d'))) (IntKind.i64.wrap ((IntKind.i64.wrap ((m a e') + (m c f'))) + e)) (IntKind.i64.wrap ((IntKind.i64.wrap ((m b e') + (m d f'))) + f))) :: undef :: undef :: undef :: undef :: undef :: [])), []⟩ := hfr.trans (by kernel_rfl)
    rw [hlit]
    clear hlit hfr hall hwd hr hI listed act
    clear HS HGA HGB HS2
    obtain ⟨hx0, hx1, hx2, hx3, hx4, hx5⟩ := HX.out
    rw [hx0, hx1, hx2, hx3, hx4, hx5]
    clear hx0 hx1 hx2 hx3 hx4 hx5 HX
    have HGM : Hid _ := fun w => igoodAff w x0 x1 x2 x3 x4 x5
    rw [HGMX.out] at HGM
    unfold affV at HGM ⊢
    obtain ⟨N, hN⟩ : ∃ N, w2.heap.size = N := ⟨_, rfl⟩
    generalize hW3 : w2.drew.alloc (.cells #[.int .i64 x0, .int .i64 x1, .int .i64 x2, .int .i64 x3, .int .i64 x4, .int .i64 x5] 24) = w3
    have m3 : ∀ o, w3.cell? ⟨w2.heap.size, o, none⟩ = (#[.int .i64 x0, .int .i64 x1, .int .i64 x2, .int .i64 x3, .int .i64 x4, .int .i64 x5] : Array Value)[o]? := fun o => by rw [← hW3]; exact World.cell?_alloc_at _ _ _ _ rfl
    have k3 : Kp w2 w3 := by rw [← hW3]; exact ((Kp.refl w2).drew).alloc _ _
    have hz3 := keepZ (B + 1 + 1) HB2.out k3 HZ2.out.1 HZ2.out.2
    have HK3 : Hid (Kp w w3) := Kp.trans HK2.out k3
    have HB3 : Hid (B + 1 + 1 < w3.heap.size) := (show _ < _ by have := HB2.out; have := Kp.size k3; omega)
    rw [hN] at m3 ⊢
    have m0 : w3.cell? ⟨N, 0, none⟩ = some (.int .i64 x0) := m3 0
    have m1 : w3.cell? ⟨N, 1, none⟩ = some (.int .i64 x1) := m3 1
    have m2 : w3.cell? ⟨N, 2, none⟩ = some (.int .i64 x2) := m3 2
    have m3' : w3.cell? ⟨N, 3, none⟩ = some (.int .i64 x3) := m3 3
    have m4 : w3.cell? ⟨N, 4, none⟩ = some (.int .i64 x4) := m3 4
    have m5 : w3.cell? ⟨N, 5, none⟩ = some (.int .i64 x5) := m3 5
    have HN3 : Hid (N < w3.heap.size) := World.block_lt_of_cell? w3 ⟨N, 0, none⟩ m0
    clear hW3 m3 k3 HZ2 HK2 HB2 hN
    have HZ3 : Hid _ := hz3
    clear hz3
    go_wp2_with fail
    refine (HGM.out _).mono ?_; rintro x w4 ⟨rfl, k4⟩
    have kc := (Kp.cells k4).1
    have n0 := (kc N 0 HN3.out).trans m0
    have n1 := (kc N 1 HN3.out).trans m1
    have n2 := (kc N 2 HN3.out).trans m2
    have n3 := (kc N 3 HN3.out).trans m3'
    have n4 := (kc N 4 HN3.out).trans m4
    have n5 := (kc N 5 HN3.out).trans m5
    obtain ⟨hz, hf⟩ := keepZ (B + 1 + 1) HB3.out k4 HZ3.out.1 HZ3.out.2
    have HK4 : Hid (Kp w w4) := Kp.trans HK3.out k4
    have hBw : Hid (w.heap.size ≤ B + 1 + 1) := (show _ ≤ _ by have := HBw.out; omega)
    clear k4 kc m0 m1 m2 m3' m4 m5
    go_wp2
    obtain ⟨y0, y1, y2, y3, y4, y5⟩ := six_set w4 (B + 1 + 1) (.int .i64 0) (.int .i64 0) (.int .i64 0) (.int .i64 0) (.int .i64 0) (.int .i64 0) hz
    refine bodyPost_ret (v := .tuple #[affV 0 0 0 0 0 0, .bool false]) (by simp [results, Try.results7, go_sem, y0, y1, y2, y3, y4, y5]) rfl ⟨rfl, ?_⟩
    exact (((((HK4.out.setCell hBw.out _).setCell hBw.out _).setCell hBw.out _).setCell hBw.out _).setCell hBw.out _).setCell hBw.out _
end Go.Proofs.Ytfodmjdhpolnkaa
