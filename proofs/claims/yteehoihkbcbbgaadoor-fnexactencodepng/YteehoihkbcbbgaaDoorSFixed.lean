/-
  The lengths of the fixed codes, as the specification makes them; its conditions stand in the theorem.
-/
import Derived.Test.YteehoihkbcbbgaaDoorFixed
namespace Go.Proofs.YteehoihkbcbbgaaDoor
open Go.ChangeShapes Go.WideShapes Go.ChangeAt Go.RowKit
set_option linter.unusedVariables false

def ic (zs : List Int) : List Value := zs.map (Value.int .i64)
def fk (k : Nat) : List Int := (List.range k).map fl
theorem fk_len (k : Nat) : (fk k).length = k := by simp [fk]
theorem fk_succ (k : Nat) : fk (k + 1) = fk k ++ [fl k] := by simp [fk, List.range_succ]
theorem fk_all : fk 288 = fixedL := rfl
theorem own_shape {w : World} {b n : Nat} {v : Value} {xs : List Value} (h : w.ownsRow b 3 1 v n xs) (hn : v ≠ .slice none 0 0) : ∃ g c, v = .slice (some ⟨g, 0, none⟩) n c := by
  rcases h.2 with ⟨h, _⟩ | ⟨g, c, _, h, _⟩
  · exact absurd h hn
  · exact ⟨g, c, h⟩
theorem one_new (wr : World) (z : Int) : ∀ j u, [Value.int .i64 z][j]? = some u → (wr.alloc (.cells #[.int .i64 z] 3)).cell? ((⟨wr.heap.size, 0, none⟩ : Addr).add j) = some u := by
  intro j u hj
  match j, hj with
  | 0, hj => simp at hj; subst hj; simp [Addr.add]
theorem one_one (z : Int) : ∀ u ∈ [Value.int .i64 z], u.oneCell' = true := by intro u hu; simp at hu; subst hu; rfl
/-- A new list of numbers of the call's own. -/
def GaveI (W w' : World) (g : Nat) (zs : List Int) (cap : Nat) : Prop :=
  Below W.heap.size W w' ∧ W.heap.size ≤ g ∧ w'.ownsRow W.heap.size 3 1 (.slice (some ⟨g, 0, none⟩) zs.length cap) zs.length (ic zs)
theorem step_below {w wr w1 : World} {B : Nat} {v : Value} (hb : Below B w wr) (hB : B ≤ wr.heap.size) (o : Obj) (h : (wr.alloc o).grownBy w1 v.ownBlock) (hv : ∀ k, v.ownBlock = some k → B ≤ k) : Below B w w1 := by
  refine (hb.alloc hB o).trans ⟨h.os, h.tape, h.output, h.size, fun k hk => h.block k (by simp; omega) (fun e => ?_)⟩
  have := hv k e.symm
  omega

set_option maxHeartbeats 4000000 in
theorem l2Fixed_any (w : World) : Calls Tryd.prog 87 #[] w fun e w' => ∃ g c, e = .returned (.slice (some ⟨g, 0, none⟩) 288 c) ∧ GaveI w w' g fixedL c := by
  obtain ⟨i0, hi, hz0, hz1, hz2⟩ := info_parts Tryd.info3
  go_enter Tryd.func87, Tryd.ntmps87
  go_wp2
  go_loopw [1, 2] (fun v i wr => ∃ k : Nat, k ≤ 288 ∧ i = .int .i64 k ∧ (∃ a n c, v = .slice a n c) ∧ wr.ownsRow w.heap.size 3 1 v k (ic (fk k)) ∧ Below w.heap.size w wr) (fun _ i _ => 288 - (intOf i).toNat)
  case atStart => exact ⟨0, Nat.zero_le _, rfl, ⟨_, _, _, rfl⟩, World.ownsRow_nil _ _ _ _, Below.refl _ _⟩
  case round =>
    obtain ⟨k, hk, rfl, ⟨va, vn, vc, rfl⟩, hown, hbel⟩ := hrel
    have hsz := hbel.size
    have HO : Hid (wr.ownsRow w.heap.size 3 1 (.slice va vn vc) k (ic (fk k))) := hown
    have HB : Hid (Below w.heap.size w wr) := hbel
    clear hown hbel
    by_cases hlt : k < 288
    · have HA : Hid (∀ z : Int, (wr.alloc (.cells #[.int .i64 z] 3)).ownsRow w.heap.size 3 1 (.slice va vn vc) k (ic (fk k))) := fun z => World.ownsRow.alloc HO.out _
      have HE : Hid (∀ (v' : Value) (w1 : World), w1.ownsRow w.heap.size 3 1 v' (k + 1) (ic (fk k) ++ [.int .i64 (fl k)]) → (wr.alloc (.cells #[.int .i64 (fl k)] 3)).grownBy w1 (Value.slice va vn vc).ownBlock → w1.ownsRow w.heap.size 3 1 v' (k + 1) (ic (fk (k + 1))) ∧ Below w.heap.size w w1) := by
        intro v' w1 h1 h2
        have e : ic (fk k) ++ [.int .i64 (fl k)] = ic (fk (k + 1)) := by rw [fk_succ]; simp [ic]
        rw [e] at h1
        exact ⟨h1, step_below HB.out hsz _ h2 (fun j hj => (World.ownsRow.lt HO.out j hj).1)⟩
      have d0 : decide ((k : Int) < 288) = true := by simp; omega
      by_cases h1 : k < 144
      · have hv : fl k = 8 := by unfold fl; rw [if_pos h1]
        rw [hv] at HE
        have d1 : decide ((k : Int) < 144) = true := by simp; omega
        clear hv
        go_wp2_with (first
          | (at_builtin; refine wpList_append_own _ rfl _ _ 41 rfl w.heap.size 3 i0 (.int .i64 0) 1 8 Tryd.underlying41 hi hz0 hz1 hz2 rfl (by decide) _ _ _ rfl (HA.out 8) ⟨wr.heap.size, 0, none⟩ 1 1 [.int .i64 8] rfl rfl (one_new wr 8) (one_one 8) ?c3 ?c4 ?c5 ?_)
          | go_in)
        case c3 => unfold maxLen; omega
        case c4 => omega
        case c5 => simp; omega
        intro v' w1 hown' hgrow hnn
        obtain ⟨h1', h2'⟩ := HE.out v' w1 hown' hgrow
        obtain ⟨g7, c7, rfl⟩ := own_shape hown' hnn
        have H1 : Hid _ := h1'
        have H2 : Hid _ := h2'
        clear h1' h2' hown' hgrow hnn
        go_wp2
        go_roundw
        case rel => exact ⟨k + 1, by omega, by go_num, ⟨_, _, _, rfl⟩, H1.out, H2.out⟩
        case measure => simp [intOf]; omega
      · have d1 : decide ((k : Int) < 144) = false := by simp; omega
        by_cases h3 : k < 280
        · have d3 : decide ((280 : Int) ≤ (k : Int)) = false := by simp; omega
          by_cases h2 : k < 256
          · have hv : fl k = 9 := by unfold fl; rw [if_neg h1, if_pos h2]
            rw [hv] at HE
            have d2 : decide ((k : Int) < 256) = true := by simp; omega
            clear hv
            go_wp2_with (first
              | (at_builtin; refine wpList_append_own _ rfl _ _ 41 rfl w.heap.size 3 i0 (.int .i64 0) 1 8 Tryd.underlying41 hi hz0 hz1 hz2 rfl (by decide) _ _ _ rfl (HA.out 9) ⟨wr.heap.size, 0, none⟩ 1 1 [.int .i64 9] rfl rfl (one_new wr 9) (one_one 9) ?c3 ?c4 ?c5 ?_)
              | go_in)
            case c3 => unfold maxLen; omega
            case c4 => omega
            case c5 => simp; omega
            intro v' w1 hown' hgrow hnn
            obtain ⟨h1', h2'⟩ := HE.out v' w1 hown' hgrow
            obtain ⟨g7, c7, rfl⟩ := own_shape hown' hnn
            have H1 : Hid _ := h1'
            have H2 : Hid _ := h2'
            clear h1' h2' hown' hgrow hnn
            go_wp2
            go_roundw
            case rel => exact ⟨k + 1, by omega, by go_num, ⟨_, _, _, rfl⟩, H1.out, H2.out⟩
            case measure => simp [intOf]; omega
          · have hv : fl k = 7 := by unfold fl; rw [if_neg h1, if_neg h2, if_pos h3]
            rw [hv] at HE
            have d2 : decide ((k : Int) < 256) = false := by simp; omega
            clear hv
            go_wp2_with (first
              | (at_builtin; refine wpList_append_own _ rfl _ _ 41 rfl w.heap.size 3 i0 (.int .i64 0) 1 8 Tryd.underlying41 hi hz0 hz1 hz2 rfl (by decide) _ _ _ rfl (HA.out 7) ⟨wr.heap.size, 0, none⟩ 1 1 [.int .i64 7] rfl rfl (one_new wr 7) (one_one 7) ?c3 ?c4 ?c5 ?_)
              | go_in)
            case c3 => unfold maxLen; omega
            case c4 => omega
            case c5 => simp; omega
            intro v' w1 hown' hgrow hnn
            obtain ⟨h1', h2'⟩ := HE.out v' w1 hown' hgrow
            obtain ⟨g7, c7, rfl⟩ := own_shape hown' hnn
            have H1 : Hid _ := h1'
            have H2 : Hid _ := h2'
            clear h1' h2' hown' hgrow hnn
            go_wp2
            go_roundw
            case rel => exact ⟨k + 1, by omega, by go_num, ⟨_, _, _, rfl⟩, H1.out, H2.out⟩
            case measure => simp [intOf]; omega
        · have hv : fl k = 8 := by unfold fl; rw [if_neg h1, if_neg (by omega), if_neg h3]
          rw [hv] at HE
          have d3 : decide ((280 : Int) ≤ (k : Int)) = true := by simp; omega
          clear hv
          go_wp2_with (first
            | (at_builtin; refine wpList_append_own _ rfl _ _ 41 rfl w.heap.size 3 i0 (.int .i64 0) 1 8 Tryd.underlying41 hi hz0 hz1 hz2 rfl (by decide) _ _ _ rfl (HA.out 8) ⟨wr.heap.size, 0, none⟩ 1 1 [.int .i64 8] rfl rfl (one_new wr 8) (one_one 8) ?c3 ?c4 ?c5 ?_)
            | go_in)
          case c3 => unfold maxLen; omega
          case c4 => omega
          case c5 => simp; omega
          intro v' w1 hown' hgrow hnn
          obtain ⟨h1', h2'⟩ := HE.out v' w1 hown' hgrow
          obtain ⟨g7, c7, rfl⟩ := own_shape hown' hnn
          have H1 : Hid _ := h1'
          have H2 : Hid _ := h2'
          clear h1' h2' hown' hgrow hnn
          go_wp2
          go_roundw
          case rel => exact ⟨k + 1, by omega, by go_num, ⟨_, _, _, rfl⟩, H1.out, H2.out⟩
          case measure => simp [intOf]; omega
    · have e : k = 288 := by omega
      subst e
      obtain ⟨g, c, hgc⟩ := own_shape HO.out (by
        intro e
        rcases HO.out.2 with ⟨_, h⟩ | ⟨g, c, _, h, _⟩
        · cases h
        · rw [h] at e; cases e)
      rw [hgc] at HO ⊢
      have HG : Hid (GaveI w wr g fixedL c) := by
        refine ⟨HB.out, (World.ownsRow.lt HO.out g rfl).1, ?_⟩
        rw [fixedL_len, ← fk_all]; exact HO.out
      clear hgc HO
      go_wp2
      go_ret
      exact ⟨g, c, rfl, HG.out⟩
end Go.Proofs.YteehoihkbcbbgaaDoor
