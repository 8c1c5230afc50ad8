/-
  What the specification's CodesOf and the program's CodesOf answer; each theorem names its conditions.
  What the program's CodesOf answers for a complete row of lengths; each theorem names its conditions.
  The lengths of the fixed codes, as the program and the specification make them; each theorem names its conditions.
  The lengths of the fixed codes, as the specification makes them; its conditions stand in the theorem.
-/
import Derived.Test.YtaeicgfebeliiaaGreatDoorJAC
import Derived.Test.YtaeicgfebeliiaaGreatDoorJAB
namespace Go.Proofs.YtaeicgfebeliiaaGreatDoor
open Go.ChangeShapes Go.WideShapes Go.ChangeAt Go.RowKit
set_option linter.unusedVariables false

/-- A new list at the block B. -/
def New (w w' : World) (B : Nat) (cs : List Int) : Prop :=
  Kp w w' ∧ w.heap.size ≤ B ∧ B < w'.heap.size ∧ ∀ i, i < cs.length → w'.cell? ⟨B, 0 + i, none⟩ = some (.int .i64 (cs.getD i 0))
theorem row_cells (k : IntKind) (w : World) (zs : List Int) (t : TypeId) : ∀ i, i < zs.length → (w.alloc (.cells (cellsOf k zs) t)).cell? ⟨w.heap.size, 0 + i, none⟩ = some (.int k (zs.getD i 0)) := by
  intro i hi
  have := cellsOf_get k zs i hi
  simp [this]

/-- The next codes of each length when i places have been given theirs. -/
def nxt (xs : List Int) (i l : Nat) : Int := nx xs l + cn xs i l
/-- The codes laid so far. -/
def cdp (xs : List Int) (i j : Nat) : Int := if j < i then cd xs j else 0
/-- The first codes laid so far. -/
def nxp (xs : List Int) (r l : Nat) : Int := if l ≤ r then nx xs l else 0
theorem nxp_set (xs : List Int) (r : Nat) (h : r + 1 < 16) : (tab 16 (nxp xs r)).setIfInBounds (r + 1) (.int .i64 ((nx xs r + cn xs xs.length r) * 2)) = tab 16 (nxp xs (r + 1)) := by
  apply tab_set _ _ _ (r + 1) _ h
  · intro j hj hne
    unfold nxp
    by_cases h : j ≤ r
    · rw [if_pos h, if_pos (by omega)]
    · rw [if_neg h, if_neg (by omega)]
  · unfold nxp; rw [if_pos (Nat.le_refl _)]; rfl
theorem nxp_zero (xs : List Int) : tab 16 (nxp xs 1) = tab 16 (fun _ => 0) := by
  apply tab_congr
  intro j hj
  unfold nxp
  by_cases h : j ≤ 1
  · rw [if_pos h]
    have h01 : j = 0 ∨ j = 1 := by omega
    rcases h01 with rfl | rfl <;> rfl
  · rw [if_neg h]
theorem nxp_all (xs : List Int) : tab 16 (nxp xs 15) = tab 16 (nxt xs 0) := by
  apply tab_congr
  intro j hj
  unfold nxp nxt
  rw [if_pos (by omega), cn_zero]; simp
theorem nxt_set (xs : List Int) (i l : Nat) (hi : i < xs.length) (h0 : l ≠ 0) (h16 : l < 16) (hx : xs.getD i 0 = (l : Int)) : (tab 16 (nxt xs i)).setIfInBounds l (.int .i64 (nxt xs i l + 1)) = tab 16 (nxt xs (i + 1)) := by
  apply tab_set _ _ _ l _ h16
  · intro j hj hne
    unfold nxt
    rw [cn_succ xs i j hi, if_neg (by omega)]; simp
  · unfold nxt
    rw [cn_succ xs i l hi, if_pos ⟨h0, hx⟩, Int.add_assoc]
theorem nxt_same (xs : List Int) (i : Nat) (hi : i < xs.length) (h : ¬ 0 < xs.getD i 0) : tab 16 (nxt xs (i + 1)) = tab 16 (nxt xs i) := by
  apply tab_congr
  intro j hj
  unfold nxt
  rw [cn_succ xs i j hi, if_neg (by omega)]; simp
theorem cdp_set (xs : List Int) (i l : Nat) (hi : i < xs.length) (h0 : l ≠ 0) (hx : xs.getD i 0 = (l : Int)) : (tab xs.length (cdp xs i)).setIfInBounds i (.int .i64 (nxt xs i l)) = tab xs.length (cdp xs (i + 1)) := by
  apply tab_set _ _ _ i _ hi
  · intro j hj hne
    unfold cdp
    by_cases h : j < i
    · rw [if_pos h, if_pos (by omega)]
    · rw [if_neg h, if_neg (by omega)]
  · unfold cdp cd nxt
    rw [if_pos (by omega), hx, if_pos (by omega)]; simp
theorem cdp_same (xs : List Int) (i : Nat) (hi : i < xs.length) (h : ¬ 0 < xs.getD i 0) : tab xs.length (cdp xs (i + 1)) = tab xs.length (cdp xs i) := by
  apply tab_congr
  intro j hj
  unfold cdp
  by_cases h2 : j < i
  · rw [if_pos h2, if_pos (by omega)]
  · rw [if_neg h2]
    by_cases e : j = i
    · subst e; rw [if_pos (by omega)]; unfold cd; rw [if_neg h]
    · rw [if_neg (by omega)]
theorem cdp_zero (xs : List Int) : tab xs.length (cdp xs 0) = tab xs.length (fun _ => 0) := by
  apply tab_congr; intro j hj; unfold cdp; rw [if_neg (by omega)]
theorem cdp_all (xs : List Int) : tab xs.length (cdp xs xs.length) = cellsOf .i64 (codesL xs) := by
  rw [← codesL_cells]; apply tab_congr; intro j hj; unfold cdp; rw [if_pos hj]
end Go.Proofs.YtaeicgfebeliiaaGreatDoor
namespace Go.Proofs.YtaeicgfebeliiaaGreatDoor
open Go.ChangeShapes Go.WideShapes Go.ChangeAt Go.RowKit
set_option linter.unusedVariables false

theorem zeros16 : tab 16 (fun _ => 0) = #[.int .i64 0, .int .i64 0, .int .i64 0, .int .i64 0, .int .i64 0, .int .i64 0, .int .i64 0, .int .i64 0, .int .i64 0, .int .i64 0, .int .i64 0, .int .i64 0, .int .i64 0, .int .i64 0, .int .i64 0, .int .i64 0] := rfl

set_option maxHeartbeats 2000000 in
theorem icodesOf_yes (w : World) (b off cap : Nat) (zs : List Int) (hl : zs.length ≤ 1048576) (hb : b < w.heap.size) (hc : ∀ i, i < zs.length → w.cell? ⟨b, off + i, none⟩ = some (.int .i64 (zs.getD i 0))) (hf : fit zs = true) (hfu : full zs = true) :
    Calls Tryz.prog 80 #[.slice (some ⟨b, off, none⟩) zs.length cap] w fun e w' => ∃ B, e = .returned (.tuple #[.slice (some ⟨B, 0, none⟩) zs.length zs.length, .bool true]) ∧ New w w' B (codesL zs) := by
  have h300 := fit_len hf
  have HG : Hid (∀ W, W = w → Calls Tryz.prog 94 #[.slice (some ⟨b, off, none⟩) zs.length cap] W fun e w' => e = .returned (.bool true) ∧ w' = W) := by
    intro W hW; subst hW; rw [← hf]; exact good_any W b off cap zs hl hc
  have HN : Hid (∀ W, W = w → Calls Tryz.prog 95 #[.slice (some ⟨b, off, none⟩) zs.length cap] W fun e w' => e = .returned (.agg (tab 16 (cn zs zs.length))) ∧ Kp w w') := by
    intro W hW; subst hW; exact count_any W b off cap zs hf hb hc
  have HK : Hid (∀ W, Calls Tryz.prog 96 #[.agg (tab 16 (cn zs zs.length))] W fun e w' => e = .returned (.bool true) ∧ Kp W w') := by
    intro W
    have e : decide (ks zs zs.length 16 = 32768) = true := by rw [ks_kr zs hf _ (Nat.le_refl _)]; exact hfu
    rw [← e]
    exact complete_any W zs zs.length h300
  have HC : Hid _ := hc
  have HF : Hid _ := hf
  clear hc hf hfu
  have hmk := run_make_row' (P := Tryz.prog) 54 3 (.int .i64 0) 8 Tryz.underlying54 Tryz.info3 rfl .i64 .i64 zs.length (by omega) (by omega)
  rw [tab_zero] at hmk
  have hx := tab16 (cn zs zs.length)
  go_enter Tryz.func80, Tryz.ntmps80
  go_wp2_with fail
  refine Calls.mono (HG.out _ rfl) ?_
  rintro e w ⟨rfl, rfl⟩
  go_wp2_with fail
  refine Calls.mono (HN.out _ rfl) ?_
  rintro e w2 ⟨rfl, hk⟩
  have HK1 : Hid _ := hk
  clear hk
  go_wp2_with fail
  rw [← tab16]
  refine Calls.mono (HK.out _) ?_
  rintro e w3 ⟨rfl, hk⟩
  have HK2 : Hid (Kp (w2.alloc (.cells (tab 16 (cn zs zs.length)) 108)) w3) := hk
  have HK3 : Hid (Kp w w3) := Kp.trans HK1.out (Kp.trans ((Kp.refl _).alloc _ _) HK2.out)
  have hs2 : w2.heap.size < w3.heap.size := by have := (HK2.out).size; simp at this; omega
  have HCN : Hid (∀ l, l < 16 → w3.cell? ⟨w2.heap.size, l, none⟩ = some (.int .i64 (cn zs zs.length l))) := by
    intro l hl
    have h1 := (HK2.out).cells.1 w2.heap.size l (by simp)
    rw [h1]
    have := tab_get 16 (cn zs zs.length) l hl
    simp [this]
  have HCZ : Hid (∀ i, i < zs.length → w3.cell? ⟨b, off + i, none⟩ = some (.int .i64 (zs.getD i 0))) := fun i hi => ((HK3.out).cells.1 _ _ hb).trans (HC.out i hi)
  have hb3 : b < w3.heap.size := by have := (HK3.out).size; omega
  clear hk hx HC HK HG HN
  go_wp2
  rw [← zeros16]
  go_loopw [6] (fun i wr => ∃ r q : Nat, 1 ≤ r ∧ r ≤ 15 ∧ i = .int .i64 r ∧ wr = (w3.drewN q).alloc (.cells (tab 16 (nxp zs r)) 108)) (fun i _ => 15 - (intOf i).toNat)
  case atStart => exact ⟨1, 0, Nat.le_refl _, by omega, rfl, by rw [nxp_zero]; rfl⟩
  case round =>
    obtain ⟨r, q, hr1, hr, rfl, rfl⟩ := hrel
    by_cases hr15 : r < 15
    · have h15 : (r : Int) < 15 := by omega
      have g1 := tab_get 16 (nxp zs r) r (by omega)
      rw [show nxp zs r r = nx zs r by unfold nxp; rw [if_pos (Nat.le_refl _)]] at g1
      have g2 := tab_get 16 (nxp zs r) (r + 1) (by omega)
      have g3 := HCN.out r (by omega)
      have HS : Hid _ := nxp_set zs r (by omega)
      have b0 := nx_small zs h300 r (by omega)
      have b2 := cn_bd zs zs.length r
      have x1 : (r : Int) < 16 := by omega
      have x2 : (r : Int) + 1 < 16 := by omega
      generalize nxp zs r (r + 1) = Y at *
      generalize tab 16 (nxp zs r) = T at *
      generalize nx zs r = X at *
      generalize cn zs zs.length r = C at *
      clear hmk
      have g1' : ((w3.drewN q).alloc (.cells T 108)).cell? ⟨w3.heap.size, r, none⟩ = some (.int .i64 X) := (World.cell?_alloc_at (w := w3.drewN q) T 108 w3.heap.size r rfl).trans g1
      have g2' : ((w3.drewN q).alloc (.cells T 108)).cell? ⟨w3.heap.size, r + 1, none⟩ = some (.int .i64 Y) := (World.cell?_alloc_at (w := w3.drewN q) T 108 w3.heap.size (r + 1) rfl).trans g2
      have g3' : ((w3.drewN q).alloc (.cells T 108)).cell? ⟨w2.heap.size, r, none⟩ = some (.int .i64 C) := by
        rw [World.cell?_alloc_past _ _ _ (by simpa using hs2)]; exact g3
      have f2' : ((w3.drewN q).alloc (.cells T 108)).frozen? ⟨w3.heap.size, r + 1, none⟩ = false := World.frozen?_alloc_at _ _ _ _ rfl
      go_wp2
      go_region
      go_wp2
      go_roundw
      case rel =>
        refine ⟨r + 1, q + 1, by omega, by omega, by go_num, ?_⟩
        rw [← HS.out]
        exact World.setCell_alloc_at (w := w3.drewN (q + 1)) _ _ _ _ _ rfl
      case measure => simp [intOf]; omega
    · have e : r = 15 := by omega
      subst e
      rw [nxp_all]
      have hsz : (w3.drewN q).heap.size = w3.heap.size := rfl
      have HZ : Hid (∀ i, i < zs.length → (w3.drewN q).cell? ⟨b, off + i, none⟩ = some (.int .i64 (zs.getD i 0))) := HCZ.out
      have HK4 : Hid (Kp w (w3.drewN q)) := (HK3.out).drewN q
      have hb4 : b < (w3.drewN q).heap.size := hb3
      rw [← hsz]
      clear hsz HK3 HCZ hb3 HCN hs2
      generalize w3.drewN q = W at *
      go_wp2
      rw [← cdp_zero]
      clear hmk
      go_loopw [38] (fun ix wr => ∃ i : Nat, i ≤ zs.length ∧ ix = .int .i64 i ∧ wr = (W.alloc (.cells (tab 16 (nxt zs i)) 108)).alloc (.cells (tab zs.length (cdp zs i)) 3)) (fun ix _ => zs.length - (intOf ix).toNat)
      case atStart => exact ⟨0, Nat.zero_le _, rfl, rfl⟩
      case round =>
        obtain ⟨i, hi, rfl, rfl⟩ := hrel
        by_cases hlt : i < zs.length
        · have c0 := HZ.out i hlt
          have bd := fit_at HF.out i
          have g2 := tab_get zs.length (cdp zs i) i hlt
          by_cases hpos : 0 < zs.getD i 0
          · obtain ⟨l, hl0⟩ := Int.eq_ofNat_of_zero_le bd.1
            have HS1 : Hid _ := nxt_set zs i l hlt (by omega) (by omega) hl0
            have HS2 : Hid _ := cdp_set zs i l hlt (by omega) hl0
            rw [hl0] at c0 bd hpos
            clear hl0
            have l16 : (l : Int) < 16 := by omega
            have g1 := tab_get 16 (nxt zs i) l (by omega)
            have b0 := nx_small zs h300 l (by omega)
            have b1 := cn_bd zs i l
            have b2 : 0 ≤ nxt zs i l ∧ nxt zs i l ≤ 20000000 := by unfold nxt; omega
            clear b0 b1
            generalize nxt zs i l = X at *
            generalize cdp zs i i = Y at *
            generalize tab 16 (nxt zs i) = T at *
            generalize tab zs.length (cdp zs i) = U at *
            go_wp2
            go_roundw
            case rel => exact ⟨i + 1, by omega, by go_num, by rw [← HS1.out, ← HS2.out]⟩
            case measure => simp [intOf]; omega
          · have HS1 : Hid _ := nxt_same zs i hlt hpos
            have HS2 : Hid _ := cdp_same zs i hlt hpos
            have e1 : decide (0 < zs.getD i 0) = false := decide_eq_false hpos
            generalize zs.getD i 0 = x at *
            generalize tab 16 (nxt zs i) = T at *
            generalize tab zs.length (cdp zs i) = U at *
            go_wp2
            go_roundw
            case rel => exact ⟨i + 1, by omega, by go_num, by rw [HS1.out, HS2.out]⟩
            case measure => simp [intOf]; omega
        · have e : i = zs.length := by omega
          subst e
          rw [cdp_all]
          have HW : Hid (New w ((W.alloc (.cells (tab 16 (nxt zs zs.length)) 108)).alloc (.cells (cellsOf .i64 (codesL zs)) 3)) (W.heap.size + 1) (codesL zs)) := by
            refine ⟨((HK4.out).alloc _ _).alloc _ _, by have := (HK4.out).size; omega, by simp, fun j hj => ?_⟩
            have := row_cells .i64 (W.alloc (.cells (tab 16 (nxt zs zs.length)) 108)) (codesL zs) 3 j hj
            simpa using this
          generalize cellsOf .i64 (codesL zs) = CC at *
          generalize tab 16 (nxt zs zs.length) = T at *
          go_wp2
          go_ret2
          exact ⟨_, rfl, HW.out⟩
end Go.Proofs.YtaeicgfebeliiaaGreatDoor
namespace Go.Proofs.YtaeicgfebeliiaaGreatDoor
open Go.ChangeShapes Go.WideShapes Go.ChangeAt Go.RowKit
set_option linter.unusedVariables false

def flp (i j : Nat) : Int := if j < i then fl j else 0
theorem flp_set (i : Nat) (h : i < 288) (v : Int) (hv : fl i = v) : (tab 288 (flp i)).setIfInBounds i (.int .i64 v) = tab 288 (flp (i + 1)) := by
  apply tab_set _ _ _ i _ h
  · intro j hj hne
    unfold flp
    by_cases h2 : j < i
    · rw [if_pos h2, if_pos (by omega)]
    · rw [if_neg h2, if_neg (by omega)]
  · unfold flp; rw [if_pos (by omega)]; exact hv
theorem flp_all : tab 288 (flp 288) = cellsOf .i64 fixedL := by
  rw [cellsOf_tab, fixedL_len]
  apply tab_congr
  intro j hj
  rw [fixedL_get j hj]
  unfold flp; rw [if_pos hj]
theorem flp_zero : tab 288 (flp 0) = tab 288 (fun _ => 0) := by
  apply tab_congr; intro j hj; unfold flp; rw [if_neg (by omega)]

set_option maxHeartbeats 2000000 in
theorem fixedLengths_any (w : World) : Calls Tryz.prog 79 #[] w fun e w' => e = .returned (.slice (some ⟨w.heap.size, 0, none⟩) 288 288) ∧ w' = w.alloc (.cells (cellsOf .i64 fixedL) 3) := by
  have hmk := run_make_row' (P := Tryz.prog) 54 3 (.int .i64 0) 8 Tryz.underlying54 Tryz.info3 rfl .i64 .i64 288 (by omega) (by omega)
  rw [tab_zero, ← flp_zero] at hmk
  have hmk2 : ∀ (W : World), (Instr.makeSlice 54 (Value.int IntKind.i64 288) (Value.int IntKind.i64 288)).run Tryz.prog W = .ok (.slice (some ⟨W.heap.size, 0, none⟩) 288 288) (W.alloc (.cells (tab 288 (flp 0)) 3)) := hmk
  clear hmk
  have HZ : Hid _ := flp_all
  go_enter Tryz.func79, Tryz.ntmps79
  go_wp2
  go_loopw [6] (fun i wr => ∃ k : Nat, k ≤ 288 ∧ i = .int .i64 k ∧ wr = w.alloc (.cells (tab 288 (flp k)) 3)) (fun i _ => 288 - (intOf i).toNat)
  case atStart => exact ⟨0, Nat.zero_le _, rfl, rfl⟩
  case round =>
    obtain ⟨k, hk, rfl, rfl⟩ := hrel
    clear hmk2
    by_cases hlt : k < 288
    · have hg := tab_get 288 (flp k) k hlt
      have x1 : (k : Int) < 288 := by omega
      have d0 : decide ((k : Int) < 288) = true := by simp; omega
      have HS : Hid (∀ v, fl k = v → (tab 288 (flp k)).setIfInBounds k (.int .i64 v) = tab 288 (flp (k + 1))) := fun v hv => flp_set k hlt v hv
      generalize flp k k = y at *
      by_cases h1 : k < 144
      · have HV : Hid _ := HS.out 8 (by unfold fl; rw [if_pos h1])
        have d1 : decide ((k : Int) < 144) = true := by simp; omega
        generalize tab 288 (flp k) = T at *
        go_wp2
        go_roundw
        case rel => exact ⟨k + 1, by omega, by go_num, by rw [← HV.out]⟩
        case measure => simp [intOf]; omega
      · have d1 : decide ((k : Int) < 144) = false := by simp; omega
        by_cases h2 : k < 256
        · have HV : Hid _ := HS.out 9 (by unfold fl; rw [if_neg h1, if_pos h2])
          have d2 : decide ((k : Int) < 256) = true := by simp; omega
          generalize tab 288 (flp k) = T at *
          go_wp2
          go_roundw
          case rel => exact ⟨k + 1, by omega, by go_num, by rw [← HV.out]⟩
          case measure => simp [intOf]; omega
        · have d2 : decide ((k : Int) < 256) = false := by simp; omega
          by_cases h3 : k < 280
          · have HV : Hid _ := HS.out 7 (by unfold fl; rw [if_neg h1, if_neg h2, if_pos h3])
            have d3 : decide ((k : Int) < 280) = true := by simp; omega
            generalize tab 288 (flp k) = T at *
            go_wp2
            go_roundw
            case rel => exact ⟨k + 1, by omega, by go_num, by rw [← HV.out]⟩
            case measure => simp [intOf]; omega
          · have HV : Hid _ := HS.out 8 (by unfold fl; rw [if_neg h1, if_neg h2, if_neg h3])
            have d3 : decide ((k : Int) < 280) = false := by simp; omega
            generalize tab 288 (flp k) = T at *
            go_wp2
            go_roundw
            case rel => exact ⟨k + 1, by omega, by go_num, by rw [← HV.out]⟩
            case measure => simp [intOf]; omega
    · have e : k = 288 := by omega
      subst e
      rw [HZ.out]
      go_wp2
      go_ret
      exact ⟨rfl, rfl⟩
end Go.Proofs.YtaeicgfebeliiaaGreatDoor
namespace Go.Proofs.YtaeicgfebeliiaaGreatDoor
open Go.ChangeShapes Go.WideShapes Go.ChangeAt Go.RowKit
set_option linter.unusedVariables false

def ic (zs : List Int) : List Value := zs.map (Value.int .i64)
def fk (k : Nat) : List Int := (List.range k).map fl
theorem fk_len (k : Nat) : (fk k).length = k := by simp [fk]
theorem fk_succ (k : Nat) : fk (k + 1) = fk k ++ [fl k] := by simp [fk, List.range_succ]
theorem fk_all : fk 288 = fixedL := rfl
theorem own_shape {w : World} {b n : Nat} {v : Value} {xs : List Value} (h : w.ownsRow b 3 1 v n xs) (hn : v ≠ .slice none 0 0) : ∃ g c, v = .slice (some ⟨g, 0, none⟩) n c := by
  rcases h.2 with ⟨h, _⟩ | ⟨g, c, _, h, _⟩
  · exact absurd h hn
  · exact ⟨g, c, h⟩
theorem one_new (wr : World) (z : Int) : ∀ j u, [Value.int .i64 z][j]? = some u → (wr.alloc (.cells #[.int .i64 z] 3)).cell? ((⟨wr.heap.size, 0, none⟩ : Addr).add j) = some u := by
  intro j u hj
  match j, hj with
  | 0, hj => simp at hj; subst hj; simp [Addr.add]
theorem one_one (z : Int) : ∀ u ∈ [Value.int .i64 z], u.oneCell' = true := by intro u hu; simp at hu; subst hu; rfl
/-- A new list of numbers of the call's own. -/
def GaveI (W w' : World) (g : Nat) (zs : List Int) (cap : Nat) : Prop :=
  Below W.heap.size W w' ∧ W.heap.size ≤ g ∧ w'.ownsRow W.heap.size 3 1 (.slice (some ⟨g, 0, none⟩) zs.length cap) zs.length (ic zs)
theorem step_below {w wr w1 : World} {B : Nat} {v : Value} (hb : Below B w wr) (hB : B ≤ wr.heap.size) (o : Obj) (h : (wr.alloc o).grownBy w1 v.ownBlock) (hv : ∀ k, v.ownBlock = some k → B ≤ k) : Below B w w1 := by
  refine (hb.alloc hB o).trans ⟨h.os, h.tape, h.output, h.size, fun k hk => h.block k (by simp; omega) (fun e => ?_)⟩
  have := hv k e.symm
  omega

set_option maxHeartbeats 4000000 in
theorem l2Fixed_any (w : World) : Calls Tryz.prog 99 #[] w fun e w' => ∃ g c, e = .returned (.slice (some ⟨g, 0, none⟩) 288 c) ∧ GaveI w w' g fixedL c := by
  obtain ⟨i0, hi, hz0, hz1, hz2⟩ := info_parts Tryz.info3
  go_enter Tryz.func99, Tryz.ntmps99
  go_wp2
  go_loopw [1, 2] (fun v i wr => ∃ k : Nat, k ≤ 288 ∧ i = .int .i64 k ∧ (∃ a n c, v = .slice a n c) ∧ wr.ownsRow w.heap.size 3 1 v k (ic (fk k)) ∧ Below w.heap.size w wr) (fun _ i _ => 288 - (intOf i).toNat)
  case atStart => exact ⟨0, Nat.zero_le _, rfl, ⟨_, _, _, rfl⟩, World.ownsRow_nil _ _ _ _, Below.refl _ _⟩
  case round =>
    obtain ⟨k, hk, rfl, ⟨va, vn, vc, rfl⟩, hown, hbel⟩ := hrel
    have hsz := hbel.size
    have HO : Hid (wr.ownsRow w.heap.size 3 1 (.slice va vn vc) k (ic (fk k))) := hown
    have HB : Hid (Below w.heap.size w wr) := hbel
    clear hown hbel
    by_cases hlt : k < 288
    · have HA : Hid (∀ z : Int, (wr.alloc (.cells #[.int .i64 z] 3)).ownsRow w.heap.size 3 1 (.slice va vn vc) k (ic (fk k))) := fun z => World.ownsRow.alloc HO.out _
      have HE : Hid (∀ (v' : Value) (w1 : World), w1.ownsRow w.heap.size 3 1 v' (k + 1) (ic (fk k) ++ [.int .i64 (fl k)]) → (wr.alloc (.cells #[.int .i64 (fl k)] 3)).grownBy w1 (Value.slice va vn vc).ownBlock → w1.ownsRow w.heap.size 3 1 v' (k + 1) (ic (fk (k + 1))) ∧ Below w.heap.size w w1) := by
        intro v' w1 h1 h2
        have e : ic (fk k) ++ [.int .i64 (fl k)] = ic (fk (k + 1)) := by rw [fk_succ]; simp [ic]
        rw [e] at h1
        exact ⟨h1, step_below HB.out hsz _ h2 (fun j hj => (World.ownsRow.lt HO.out j hj).1)⟩
      have d0 : decide ((k : Int) < 288) = true := by simp; omega
      by_cases h1 : k < 144
      · have hv : fl k = 8 := by unfold fl; rw [if_pos h1]
        rw [hv] at HE
        have d1 : decide ((k : Int) < 144) = true := by simp; omega
        clear hv
        go_wp2_with (first
          | (at_builtin; refine wpList_append_own _ rfl _ _ 54 rfl w.heap.size 3 i0 (.int .i64 0) 1 8 Tryz.underlying54 hi hz0 hz1 hz2 rfl (by decide) _ _ _ rfl (HA.out 8) ⟨wr.heap.size, 0, none⟩ 1 1 [.int .i64 8] rfl rfl (one_new wr 8) (one_one 8) ?c3 ?c4 ?c5 ?_)
          | go_in)
        case c3 => unfold maxLen; omega
        case c4 => omega
        case c5 => simp; omega
        intro v' w1 hown' hgrow hnn
        obtain ⟨h1', h2'⟩ := HE.out v' w1 hown' hgrow
        obtain ⟨g7, c7, rfl⟩ := own_shape hown' hnn
        have H1 : Hid _ := h1'
        have H2 : Hid _ := h2'
        clear h1' h2' hown' hgrow hnn
        go_wp2
        go_roundw
        case rel => exact ⟨k + 1, by omega, by go_num, ⟨_, _, _, rfl⟩, H1.out, H2.out⟩
        case measure => simp [intOf]; omega
      · have d1 : decide ((k : Int) < 144) = false := by simp; omega
        by_cases h3 : k < 280
        · have d3 : decide ((280 : Int) ≤ (k : Int)) = false := by simp; omega
          by_cases h2 : k < 256
          · have hv : fl k = 9 := by unfold fl; rw [if_neg h1, if_pos h2]
            rw [hv] at HE
            have d2 : decide ((k : Int) < 256) = true := by simp; omega
            clear hv
            go_wp2_with (first
              | (at_builtin; refine wpList_append_own _ rfl _ _ 54 rfl w.heap.size 3 i0 (.int .i64 0) 1 8 Tryz.underlying54 hi hz0 hz1 hz2 rfl (by decide) _ _ _ rfl (HA.out 9) ⟨wr.heap.size, 0, none⟩ 1 1 [.int .i64 9] rfl rfl (one_new wr 9) (one_one 9) ?c3 ?c4 ?c5 ?_)
              | go_in)
            case c3 => unfold maxLen; omega
            case c4 => omega
            case c5 => simp; omega
            intro v' w1 hown' hgrow hnn
            obtain ⟨h1', h2'⟩ := HE.out v' w1 hown' hgrow
            obtain ⟨g7, c7, rfl⟩ := own_shape hown' hnn
            have H1 : Hid _ := h1'
            have H2 : Hid _ := h2'
            clear h1' h2' hown' hgrow hnn
            go_wp2
            go_roundw
            case rel => exact ⟨k + 1, by omega, by go_num, ⟨_, _, _, rfl⟩, H1.out, H2.out⟩
            case measure => simp [intOf]; omega
          · have hv : fl k = 7 := by unfold fl; rw [if_neg h1, if_neg h2, if_pos h3]
            rw [hv] at HE
            have d2 : decide ((k : Int) < 256) = false := by simp; omega
            clear hv
            go_wp2_with (first
              | (at_builtin; refine wpList_append_own _ rfl _ _ 54 rfl w.heap.size 3 i0 (.int .i64 0) 1 8 Tryz.underlying54 hi hz0 hz1 hz2 rfl (by decide) _ _ _ rfl (HA.out 7) ⟨wr.heap.size, 0, none⟩ 1 1 [.int .i64 7] rfl rfl (one_new wr 7) (one_one 7) ?c3 ?c4 ?c5 ?_)
              | go_in)
            case c3 => unfold maxLen; omega
            case c4 => omega
            case c5 => simp; omega
            intro v' w1 hown' hgrow hnn
            obtain ⟨h1', h2'⟩ := HE.out v' w1 hown' hgrow
            obtain ⟨g7, c7, rfl⟩ := own_shape hown' hnn
            have H1 : Hid _ := h1'
            have H2 : Hid _ := h2'
            clear h1' h2' hown' hgrow hnn
            go_wp2
            go_roundw
            case rel => exact ⟨k + 1, by omega, by go_num, ⟨_, _, _, rfl⟩, H1.out, H2.out⟩
            case measure => simp [intOf]; omega
        · have hv : fl k = 8 := by unfold fl; rw [if_neg h1, if_neg (by omega), if_neg h3]
          rw [hv] at HE
          have d3 : decide ((280 : Int) ≤ (k : Int)) = true := by simp; omega
          clear hv
          go_wp2_with (first
            | (at_builtin; refine wpList_append_own _ rfl _ _ 54 rfl w.heap.size 3 i0 (.int .i64 0) 1 8 Tryz.underlying54 hi hz0 hz1 hz2 rfl (by decide) _ _ _ rfl (HA.out 8) ⟨wr.heap.size, 0, none⟩ 1 1 [.int .i64 8] rfl rfl (one_new wr 8) (one_one 8) ?c3 ?c4 ?c5 ?_)
            | go_in)
          case c3 => unfold maxLen; omega
          case c4 => omega
          case c5 => simp; omega
          intro v' w1 hown' hgrow hnn
          obtain ⟨h1', h2'⟩ := HE.out v' w1 hown' hgrow
          obtain ⟨g7, c7, rfl⟩ := own_shape hown' hnn
          have H1 : Hid _ := h1'
          have H2 : Hid _ := h2'
          clear h1' h2' hown' hgrow hnn
          go_wp2
          go_roundw
          case rel => exact ⟨k + 1, by omega, by go_num, ⟨_, _, _, rfl⟩, H1.out, H2.out⟩
          case measure => simp [intOf]; omega
    · have e : k = 288 := by omega
      subst e
      obtain ⟨g, c, hgc⟩ := own_shape HO.out (by
        intro e
        rcases HO.out.2 with ⟨_, h⟩ | ⟨g, c, _, h, _⟩
        · cases h
        · rw [h] at e; cases e)
      rw [hgc] at HO ⊢
      have HG : Hid (GaveI w wr g fixedL c) := by
        refine ⟨HB.out, (World.ownsRow.lt HO.out g rfl).1, ?_⟩
        rw [fixedL_len, ← fk_all]; exact HO.out
      clear hgc HO
      go_wp2
      go_ret
      exact ⟨g, c, rfl, HG.out⟩
end Go.Proofs.YtaeicgfebeliiaaGreatDoor
