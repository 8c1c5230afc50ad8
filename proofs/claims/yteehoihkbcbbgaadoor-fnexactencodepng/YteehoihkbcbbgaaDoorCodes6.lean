/-
  What the program's CodesOf answers for a complete row of lengths; each theorem names its conditions.
-/
import Derived.Test.YteehoihkbcbbgaaDoorCodes5
namespace Go.Proofs.YteehoihkbcbbgaaDoor
open Go.ChangeShapes Go.WideShapes Go.ChangeAt Go.RowKit
set_option linter.unusedVariables false

theorem zeros16 : tab 16 (fun _ => 0) = #[.int .i64 0, .int .i64 0, .int .i64 0, .int .i64 0, .int .i64 0, .int .i64 0, .int .i64 0, .int .i64 0, .int .i64 0, .int .i64 0, .int .i64 0, .int .i64 0, .int .i64 0, .int .i64 0, .int .i64 0, .int .i64 0] := rfl

set_option maxHeartbeats 2000000 in
theorem icodesOf_yes (w : World) (b off cap : Nat) (zs : List Int) (hl : zs.length ≤ 1048576) (hb : b < w.heap.size) (hc : ∀ i, i < zs.length → w.cell? ⟨b, off + i, none⟩ = some (.int .i64 (zs.getD i 0))) (hf : fit zs = true) (hfu : full zs = true) :
    Calls Tryd.prog 25 #[.slice (some ⟨b, off, none⟩) zs.length cap] w fun e w' => ∃ B, e = .returned (.tuple #[.slice (some ⟨B, 0, none⟩) zs.length zs.length, .bool true]) ∧ New w w' B (codesL zs) := by
  have h300 := fit_len hf
  have HG : Hid (∀ W, W = w → Calls Tryd.prog 54 #[.slice (some ⟨b, off, none⟩) zs.length cap] W fun e w' => e = .returned (.bool true) ∧ w' = W) := by
    intro W hW; subst hW; rw [← hf]; exact good_any W b off cap zs hl hc
  have HN : Hid (∀ W, W = w → Calls Tryd.prog 55 #[.slice (some ⟨b, off, none⟩) zs.length cap] W fun e w' => e = .returned (.agg (tab 16 (cn zs zs.length))) ∧ Kp w w') := by
    intro W hW; subst hW; exact count_any W b off cap zs hf hb hc
  have HK : Hid (∀ W, Calls Tryd.prog 56 #[.agg (tab 16 (cn zs zs.length))] W fun e w' => e = .returned (.bool true) ∧ Kp W w') := by
    intro W
    have e : decide (ks zs zs.length 16 = 32768) = true := by rw [ks_kr zs hf _ (Nat.le_refl _)]; exact hfu
    rw [← e]
    exact complete_any W zs zs.length h300
  have HC : Hid _ := hc
  have HF : Hid _ := hf
  clear hc hf hfu
  have hmk := run_make_row' (P := Tryd.prog) 41 3 (.int .i64 0) 8 Tryd.underlying41 Tryd.info3 rfl .i64 .i64 zs.length (by omega) (by omega)
  rw [tab_zero] at hmk
  have hx := tab16 (cn zs zs.length)
  go_enter Tryd.func25, Tryd.ntmps25
  go_wp2_with fail
  refine Calls.mono (HG.out _ rfl) ?_
  rintro e w ⟨rfl, rfl⟩
  go_wp2_with fail
  refine Calls.mono (HN.out _ rfl) ?_
  rintro e w2 ⟨rfl, hk⟩
  have HK1 : Hid _ := hk
  clear hk
  go_wp2_with fail
  rw [← tab16]
  refine Calls.mono (HK.out _) ?_
  rintro e w3 ⟨rfl, hk⟩
  have HK2 : Hid (Kp (w2.alloc (.cells (tab 16 (cn zs zs.length)) 82)) w3) := hk
  have HK3 : Hid (Kp w w3) := Kp.trans HK1.out (Kp.trans ((Kp.refl _).alloc _ _) HK2.out)
  have hs2 : w2.heap.size < w3.heap.size := by have := (HK2.out).size; simp at this; omega
  have HCN : Hid (∀ l, l < 16 → w3.cell? ⟨w2.heap.size, l, none⟩ = some (.int .i64 (cn zs zs.length l))) := by
    intro l hl
    have h1 := (HK2.out).cells.1 w2.heap.size l (by simp)
    rw [h1]
    have := tab_get 16 (cn zs zs.length) l hl
    simp [this]
  have HCZ : Hid (∀ i, i < zs.length → w3.cell? ⟨b, off + i, none⟩ = some (.int .i64 (zs.getD i 0))) := fun i hi => ((HK3.out).cells.1 _ _ hb).trans (HC.out i hi)
  have hb3 : b < w3.heap.size := by have := (HK3.out).size; omega
  clear hk hx HC HK HG HN
  go_wp2
  rw [← zeros16]
  go_loopw [6] (fun i wr => ∃ r q : Nat, 1 ≤ r ∧ r ≤ 15 ∧ i = .int .i64 r ∧ wr = (w3.drewN q).alloc (.cells (tab 16 (nxp zs r)) 82)) (fun i _ => 15 - (intOf i).toNat)
  case atStart => exact ⟨1, 0, Nat.le_refl _, by omega, rfl, by rw [nxp_zero]; rfl⟩
  case round =>
    obtain ⟨r, q, hr1, hr, rfl, rfl⟩ := hrel
    by_cases hr15 : r < 15
    · have h15 : (r : Int) < 15 := by omega
      have g1 := tab_get 16 (nxp zs r) r (by omega)
      rw [show nxp zs r r = nx zs r by unfold nxp; rw [if_pos (Nat.le_refl _)]] at g1
      have g2 := tab_get 16 (nxp zs r) (r + 1) (by omega)
      have g3 := HCN.out r (by omega)
      have HS : Hid _ := nxp_set zs r (by omega)
      have b0 := nx_small zs h300 r (by omega)
      have b2 := cn_bd zs zs.length r
      have x1 : (r : Int) < 16 := by omega
      have x2 : (r : Int) + 1 < 16 := by omega
      generalize nxp zs r (r + 1) = Y at *
      generalize tab 16 (nxp zs r) = T at *
      generalize nx zs r = X at *
      generalize cn zs zs.length r = C at *
      clear hmk
      have g1' : ((w3.drewN q).alloc (.cells T 82)).cell? ⟨w3.heap.size, r, none⟩ = some (.int .i64 X) := (World.cell?_alloc_at (w := w3.drewN q) T 82 w3.heap.size r rfl).trans g1
      have g2' : ((w3.drewN q).alloc (.cells T 82)).cell? ⟨w3.heap.size, r + 1, none⟩ = some (.int .i64 Y) := (World.cell?_alloc_at (w := w3.drewN q) T 82 w3.heap.size (r + 1) rfl).trans g2
      have g3' : ((w3.drewN q).alloc (.cells T 82)).cell? ⟨w2.heap.size, r, none⟩ = some (.int .i64 C) := by
        rw [World.cell?_alloc_past _ _ _ (by simpa using hs2)]; exact g3
      have f2' : ((w3.drewN q).alloc (.cells T 82)).frozen? ⟨w3.heap.size, r + 1, none⟩ = false := World.frozen?_alloc_at _ _ _ _ rfl
      go_wp2
      go_region
      go_wp2
      go_roundw
      case rel =>
        refine ⟨r + 1, q + 1, by omega, by omega, by go_num, ?_⟩
        rw [← HS.out]
        exact World.setCell_alloc_at (w := w3.drewN (q + 1)) _ _ _ _ _ rfl
      case measure => simp [intOf]; omega
    · have e : r = 15 := by omega
      subst e
      rw [nxp_all]
      have hsz : (w3.drewN q).heap.size = w3.heap.size := rfl
      have HZ : Hid (∀ i, i < zs.length → (w3.drewN q).cell? ⟨b, off + i, none⟩ = some (.int .i64 (zs.getD i 0))) := HCZ.out
      have HK4 : Hid (Kp w (w3.drewN q)) := (HK3.out).drewN q
      have hb4 : b < (w3.drewN q).heap.size := hb3
      rw [← hsz]
      clear hsz HK3 HCZ hb3 HCN hs2
      generalize w3.drewN q = W at *
      go_wp2
      rw [← cdp_zero]
      clear hmk
      go_loopw [38] (fun ix wr => ∃ i : Nat, i ≤ zs.length ∧ ix = .int .i64 i ∧ wr = (W.alloc (.cells (tab 16 (nxt zs i)) 82)).alloc (.cells (tab zs.length (cdp zs i)) 3)) (fun ix _ => zs.length - (intOf ix).toNat)
      case atStart => exact ⟨0, Nat.zero_le _, rfl, rfl⟩
      case round =>
        obtain ⟨i, hi, rfl, rfl⟩ := hrel
        by_cases hlt : i < zs.length
        · have c0 := HZ.out i hlt
          have bd := fit_at HF.out i
          have g2 := tab_get zs.length (cdp zs i) i hlt
          by_cases hpos : 0 < zs.getD i 0
          · obtain ⟨l, hl0⟩ := Int.eq_ofNat_of_zero_le bd.1
            have HS1 : Hid _ := nxt_set zs i l hlt (by omega) (by omega) hl0
            have HS2 : Hid _ := cdp_set zs i l hlt (by omega) hl0
            rw [hl0] at c0 bd hpos
            clear hl0
            have l16 : (l : Int) < 16 := by omega
            have g1 := tab_get 16 (nxt zs i) l (by omega)
            have b0 := nx_small zs h300 l (by omega)
            have b1 := cn_bd zs i l
            have b2 : 0 ≤ nxt zs i l ∧ nxt zs i l ≤ 20000000 := by unfold nxt; omega
            clear b0 b1
            generalize nxt zs i l = X at *
            generalize cdp zs i i = Y at *
            generalize tab 16 (nxt zs i) = T at *
            generalize tab zs.length (cdp zs i) = U at *
            go_wp2
            go_roundw
            case rel => exact ⟨i + 1, by omega, by go_num, by rw [← HS1.out, ← HS2.out]⟩
            case measure => simp [intOf]; omega
          · have HS1 : Hid _ := nxt_same zs i hlt hpos
            have HS2 : Hid _ := cdp_same zs i hlt hpos
            have e1 : decide (0 < zs.getD i 0) = false := decide_eq_false hpos
            generalize zs.getD i 0 = x at *
            generalize tab 16 (nxt zs i) = T at *
            generalize tab zs.length (cdp zs i) = U at *
            go_wp2
            go_roundw
            case rel => exact ⟨i + 1, by omega, by go_num, by rw [HS1.out, HS2.out]⟩
            case measure => simp [intOf]; omega
        · have e : i = zs.length := by omega
          subst e
          rw [cdp_all]
          have HW : Hid (New w ((W.alloc (.cells (tab 16 (nxt zs zs.length)) 82)).alloc (.cells (cellsOf .i64 (codesL zs)) 3)) (W.heap.size + 1) (codesL zs)) := by
            refine ⟨((HK4.out).alloc _ _).alloc _ _, by have := (HK4.out).size; omega, by simp, fun j hj => ?_⟩
            have := row_cells .i64 (W.alloc (.cells (tab 16 (nxt zs zs.length)) 82)) (codesL zs) 3 j hj
            simpa using this
          generalize cellsOf .i64 (codesL zs) = CC at *
          generalize tab 16 (nxt zs zs.length) = T at *
          go_wp2
          go_ret2
          exact ⟨_, rfl, HW.out⟩
end Go.Proofs.YteehoihkbcbbgaaDoor
