/-
  What the laws' helpers that copy a list, hold two against each other, mark a list and look whether it is held do; each theorem names its conditions.
-/
import Derived.Test.YthlohbiocfeapaaLow
namespace Go.Proofs.Ythlohbiocfeapaa
open Go.ChangeShapes Go.WideShapes Go.ChangeAt Go.RowKit
set_option linter.unusedVariables false

/-- Alike lists are told to be alike. -/
theorem eqByte_any (w : World) (a1 a2 : Option Addr) (c1 c2 : Nat) (zs : List Int) (hl : zs.length ≤ 1048576) (h1 : Row .u8 w a1 zs) (h2 : Row .u8 w a2 zs) :
    Calls Try.prog 54 #[.slice a1 zs.length c1, .slice a2 zs.length c2] w fun e w' => e = .returned (.bool true) ∧ ∃ q, w' = w.drewN q := by
  go_enter Try.func54, Try.ntmps54
  go_wp2
  go_loopw [5] (fun i wr => ∃ k q : Nat, k ≤ zs.length ∧ i = .int .i64 k ∧ wr = w.drewN q) (fun i _ => zs.length - (intOf i).toNat)
  case atStart => exact ⟨0, 0, Nat.zero_le _, rfl, rfl⟩
  case round =>
    obtain ⟨k, q, hk, rfl, rfl⟩ := hrel
    by_cases hlt : k < zs.length
    · rcases h1 with rfl | ⟨b1, o1, rfl, hb1, h1⟩
      · exact absurd hlt (by simp)
      rcases h2 with rfl | ⟨b2, o2, rfl, hb2, h2⟩
      · exact absurd hlt (by simp)
      have c0 := h1 k hlt
      have c1 := h2 k hlt
      clear h1 h2
      generalize zs.getD k 0 = x at *
      have hq : (x == x) = true := by simp
      go_wp2
      go_quiet (fail)
      go_wp2
      go_roundw
      case rel => exact ⟨k + 1, _, by omega, by go_num, rfl⟩
      case measure => simp [intOf]; omega
    · clear h1 h2
      go_wp2
      go_ret
      exact ⟨rfl, _, rfl⟩

def marked (n : Nat) : List Int := (List.range n).map (fun i : Nat => (1 + (i : Int)) % 256)
theorem marked_len (n : Nat) : (marked n).length = n := by simp [marked]
theorem marked_get (n i : Nat) (h : i < n) : (marked n).getD i 0 = (1 + (i : Int)) % 256 := by simp [marked, h]

theorem eqByte_at (W : World) (b1 b2 n c1 c2 : Nat) (cs : List Int) (hn : cs.length = n) (hl : n ≤ 1048576) (h1 : At W b1 cs) (h2 : At W b2 cs) :
    Calls Try.prog 54 #[.slice (some ⟨b1, 0, none⟩) n c1, .slice (some ⟨b2, 0, none⟩) n c2] W fun e w' => e = .returned (.bool true) ∧ Nw W w' := by
  subst hn
  refine (eqByte_any W _ _ c1 c2 cs hl h1.row h2.row).mono ?_
  rintro e w' ⟨he, q, rfl⟩
  exact ⟨he, ((Kp.refl W).drewN q).nw⟩

set_option maxHeartbeats 1000000 in
theorem mark_at (W : World) (b c : Nat) (zs : List Int) (hl : zs.length ≤ 1048576) (h : At W b zs) :
    Calls Try.prog 55 #[.slice (some ⟨b, 0, none⟩) zs.length c, .int .i64 1] W fun e w' => e = .returned (.int .i64 (1 + (zs.length : Int))) ∧ Sel b W w' ∧ At w' b (marked zs.length) := by
  obtain ⟨hb, hc, hf⟩ := h
  have HC : Hid _ := hc
  have HF : Hid _ := hf
  clear hc hf
  go_enter Try.func55, Try.ntmps55
  go_wp2
  go_loopw [1, 5] (fun k i wr => ∃ j : Nat, j ≤ zs.length ∧ i = .int .i64 j ∧ k = .int .i64 (1 + (j : Int)) ∧ Sel b W wr ∧ (∀ m, m < j → wr.cell? ⟨b, 0 + m, none⟩ = some (.int .u8 ((1 + (m : Int)) % 256))) ∧ (∀ m, j ≤ m → m < zs.length → wr.cell? ⟨b, 0 + m, none⟩ = some (.int .u8 (zs.getD m 0))) ∧ ∀ o, wr.frozen? ⟨b, o, none⟩ = false) (fun _ i _ => zs.length - (intOf i).toNat)
  case atStart => exact ⟨0, Nat.zero_le _, rfl, rfl, Sel.refl _ _, fun m hm => absurd hm (by omega), fun m _ hm => HC.out m hm, HF.out⟩
  case round =>
    obtain ⟨j, hj, rfl, rfl, hs, h1, h2, h3⟩ := hrel
    by_cases hlt : j < zs.length
    · have c0 := h2 j (Nat.le_refl _) hlt
      have f0 := h3 j
      rw [Nat.zero_add] at c0
      have HN : Hid (Sel b W (wr.setCell ⟨b, j, none⟩ (.int .u8 ((1 + (j : Int)) % 256))) ∧ (∀ m, m < j + 1 → (wr.setCell ⟨b, j, none⟩ (.int .u8 ((1 + (j : Int)) % 256))).cell? ⟨b, 0 + m, none⟩ = some (.int .u8 ((1 + (m : Int)) % 256))) ∧ (∀ m, j + 1 ≤ m → m < zs.length → (wr.setCell ⟨b, j, none⟩ (.int .u8 ((1 + (j : Int)) % 256))).cell? ⟨b, 0 + m, none⟩ = some (.int .u8 (zs.getD m 0))) ∧ ∀ o, (wr.setCell ⟨b, j, none⟩ (.int .u8 ((1 + (j : Int)) % 256))).frozen? ⟨b, o, none⟩ = false) := by
        refine ⟨hs.setCell _ _, fun m hm => ?_, fun m hm1 hm2 => ?_, fun o => ?_⟩
        · by_cases e : m = j
          · subst e; rw [Nat.zero_add]; exact World.cell?_setCell_same wr ⟨b, m, none⟩ _ c0
          · rw [World.cell?_setCell_other _ _ _ _ (fun h => by injection h; omega)]; exact h1 m (by omega)
        · rw [World.cell?_setCell_other _ _ _ _ (fun h => by injection h; omega)]; exact h2 m (by omega) hm2
        · rw [World.frozen?_setCell]; exact h3 o
      clear hs h1 h2 h3
      generalize zs.getD j 0 = x at *
      go_wp2
      go_roundw
      case rel => exact ⟨j + 1, by omega, by go_num, by go_num, HN.out.1, HN.out.2.1, HN.out.2.2.1, HN.out.2.2.2⟩
      case measure => simp [intOf]; omega
    · have e : j = zs.length := by omega
      subst e
      have HN : Hid (Sel b W wr ∧ At wr b (marked zs.length)) := by
        refine ⟨hs, by rw [hs.size]; exact hb, fun i hi => ?_, h3⟩
        rw [marked_len] at hi
        rw [marked_get _ i hi]
        exact h1 i hi
      clear hs h1 h2 h3
      go_wp2
      go_ret
      exact ⟨rfl, HN.out⟩

set_option maxHeartbeats 1000000 in
theorem held_at (W : World) (b c n : Nat) (hl : n ≤ 1048576) (h : At W b (marked n)) :
    Calls Try.prog 56 #[.slice (some ⟨b, 0, none⟩) n c, .int .i64 1] W fun e w' => e = .returned (.int .i64 (1 + (n : Int))) ∧ w' = W := by
  obtain ⟨hb, hc, hf⟩ := h
  have HC : Hid _ := hc
  clear hc hf
  go_enter Try.func56, Try.ntmps56
  go_wp2
  go_loop [1, 5] (fun k i => ∃ j : Nat, j ≤ n ∧ i = .int .i64 j ∧ k = .int .i64 (1 + (j : Int))) (fun _ i => n - (intOf i).toNat)
  case atStart => exact ⟨0, Nat.zero_le _, rfl, rfl⟩
  case round =>
    obtain ⟨j, hj, rfl, rfl⟩ := hrel
    by_cases hlt : j < n
    · have c0 := HC.out j (by rw [marked_len]; exact hlt)
      rw [marked_get n j hlt, Nat.zero_add] at c0
      have hq : (((1 : Int) + (j : Int)) % 256 != (1 + (j : Int)) % 256) = false := by simp
      go_wp2
      go_round
      case rel => exact ⟨j + 1, by omega, by go_num, by go_num⟩
      case measure => simp [intOf]; omega
    · have e : j = n := by omega
      subst e
      go_wp2
      go_ret
      exact ⟨rfl, rfl⟩
end Go.Proofs.Ythlohbiocfeapaa
