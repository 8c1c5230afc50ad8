/-
  The list of properties: the program's, and the walk of the law's text; each theorem names its conditions.
-/
import Derived.Test.YtaeepbjdhcbofaaFv
import Derived.Test.YtaeepbjdhcbofaaMarkS
namespace Go.Proofs.Ytaeepbjdhcbofaa
open Go.ChangeShapes Go.WideShapes Go.ChangeAt Go.RowKit
set_option linter.unusedVariables false

theorem prNames_len : prNames.length = 16 := rfl
theorem prNames_take (k : Nat) (h : k < 16) : prNames.take (k + 1) = prNames.take k ++ [(prAt k).n] := by
  rcases (show k = 0 ∨ k = 1 ∨ k = 2 ∨ k = 3 ∨ k = 4 ∨ k = 5 ∨ k = 6 ∨ k = 7 ∨ k = 8 ∨ k = 9 ∨ k = 10 ∨ k = 11 ∨ k = 12 ∨ k = 13 ∨ k = 14 ∨ k = 15 by omega) with rfl | rfl | rfl | rfl | rfl | rfl | rfl | rfl | rfl | rfl | rfl | rfl | rfl | rfl | rfl | rfl
  all_goals rfl
set_option maxHeartbeats 2000000 in
theorem iprops (w : World) : Calls Try.prog 13 #[] w fun e w' => ∃ g c, e = .returned (.slice (some ⟨g, 0, none⟩) 16 c) ∧ Nw w w' ∧ w.heap.size ≤ g ∧ LayS w' g prNames 16 := by
  go_enter Try.func13, Try.ntmps13
  go_wp2_with (go_at_call 27; refine (allProps _).mono ?_; rintro e w1 ⟨rfl, k1⟩)
  have HK : Hid (Nw w w1) := k1
  clear k1
  have HX : ∀ k, Hid (k < 16 → (Instr.index 48 (.agg prT) (.int .i64 (k : Nat))).run Try.prog = fun W => .ok (prV (prAt k)) W) := fun k h => funext fun W => ix_pr k h W
  generalize prT = T at *
  go_loopw [1, 5] (fun v i wr => ∃ k : Nat, k ≤ 16 ∧ i = .int .i64 k ∧ Txs wr w.heap.size v (prNames.take k) ∧ Nw w wr) (fun _ i _ => 16 - (intOf i).toNat)
  case atStart => exact ⟨0, Nat.zero_le _, rfl, Txs.nil _ _, HK.out⟩
  case round =>
    obtain ⟨k, hk, rfl, hv, hw⟩ := hrel
    have HV : Hid (Txs wr w.heap.size _ (prNames.take k)) := hv
    have HW : Hid (Nw w wr) := hw
    clear hv hw
    by_cases hlt : k < 16
    · have hix : ∀ W, (Instr.index 48 (.agg T) (.int .i64 (k : Int))).run Try.prog W = .ok (prV (prAt k)) W := fun W => by rw [(HX k).out hlt]
      have hltI : (k : Int) < 16 := by omega
      have HT : Hid (prNames.take (k + 1) = prNames.take k ++ [(prAt k).n]) := prNames_take k hlt
      unfold prV at hix
      have hlen : (prNames.take k).length ≤ 10000000 := by rw [List.length_take]; omega
      generalize (prAt k).n = n at *
      generalize (prAt k).f = f at *
      generalize (prAt k).b = b at *
      have HA : ∀ o1 o2, Hid (Nw w ((wr.alloc o1).alloc o2)) := fun o1 o2 => Nw.trans HW.out (((Below.refl _ _).alloc (Nat.le_refl _) _).alloc (by simp) _)
      have HB : ∀ o1 o2, Hid (Nw wr ((wr.alloc o1).alloc o2)) := fun o1 o2 => ((Below.refl _ _).alloc (Nat.le_refl _) _).alloc (by simp) _
      go_wp2_with (at_builtin; (refine wp_tx _ rfl _ _ rfl w.heap.size _ _ n rfl (HV.out.nw (HB _ _).out) _ rfl ?c1 hlen ?c3 ?_))
      case c1 => simp
      case c3 => exact Below.size (HA _ _).out
      intro v' w' h1 h2
      have HN : Hid (Nw w w') := Below.trans (HA _ _).out (Txs.below (HV.out.nw (HB _ _).out) h2 (Below.size (HA _ _).out))
      have H1 : Hid (Txs w' w.heap.size v' (prNames.take (k + 1))) := by show Txs _ _ _ _; rw [HT.out]; exact h1
      clear h1 h2
      go_wp2
      go_roundw
      case rel => exact ⟨k + 1, by omega, by go_num, H1.out, HN.out⟩
      case measure => simp [intOf]; omega
    · have e : k = 16 := by omega
      subst e
      clear HX
      have hl := HV.out.lay
      have ht : prNames.take 16 = prNames := rfl
      rw [ht] at hl
      rcases hl with ⟨_, h⟩ | ⟨g, c, rfl, hg, hl⟩
      · cases h
      have HL : Hid (LayS wr g prNames 16) := hl
      have HG : Hid (w.heap.size ≤ g) := hg
      clear hl hg
      have e16 : prNames.length = 16 := rfl
      go_wp2
      go_ret
      exact ⟨g, c, rfl, HW.out, HG.out, HL.out⟩
set_option maxHeartbeats 2000000 in
theorem walk_props (w : World) : Calls Try.prog 4 #[] w fun e w' => e = .returned (.bool true) ∧ Below w.heap.size w w' := by
  go_enter Try.func4, Try.ntmps4
  go_wp2_with fail
  refine Calls.mono (sprops _) ?_
  rintro e w1 ⟨rfl, k1, l1⟩
  have S1 : Hid (Nw w w1) := k1
  have L1 : Hid (LayS w1 w.heap.size prNames 16) := l1
  clear k1 l1
  go_wp2_with fail
  refine Calls.mono (iprops _) ?_
  rintro e w2 ⟨g, c, rfl, k1, hg, l2⟩
  have hg1 : w.heap.size < g := Nat.lt_of_lt_of_le L1.out.1 hg
  have S2 : Hid (Nw w w2) := S1.out.trans k1
  have L2 : Hid (LayS w2 w.heap.size prNames 16) := L1.out.nw k1
  have G2 : Hid (LayS w2 g prNames 16) := l2
  clear k1 l2 L1 hg
  go_wp2_with fail
  refine Calls.mono (eqStringS_any _ (some ⟨g, 0, none⟩) (some ⟨w.heap.size, 0, none⟩) c 16 prNames (by decide) (LayS.strs G2.out) (LayS.strs L2.out)) ?_
  rintro e w3 ⟨rfl, k1⟩
  have S3 : Hid (Nw w w3) := S2.out.trans k1
  have L3 : Hid (LayS w3 w.heap.size prNames 16) := L2.out.nw k1
  have G3 : Hid (LayS w3 g prNames 16) := G2.out.nw k1
  clear k1 L2 G2
  go_wp2_with fail
  refine Calls.mono (markS_any w3 g c 1 prNames (by decide) (by omega) (by omega) G3.out) ?_
  rintro e w4 ⟨rfl, k1, l4⟩
  have S4 : Hid (Nw w w4) := Below.trans S3.out (grown_below k1 (by omega) (Below.size S3.out))
  have L4 : Hid (Strs w4 (some ⟨w.heap.size, 0, none⟩) prNames) := (LayS.strs L3.out).grown k1 (by omega)
  have G4 : Hid (LayS w4 g (markL 1 16) 16) := l4
  clear k1 l4 L3 G3
  have e17 : (((1 + prNames.length : Nat)) : Int) = 17 := rfl
  rw [e17]
  go_wp2_with fail
  refine Calls.mono (heldS_any w4 g c 1 16 (by omega) (by omega) (by omega) G4.out) ?_
  rintro e w5 ⟨rfl, k1⟩
  have S5 : Hid (Nw w w5) := S4.out.trans k1
  have L5 : Hid (Strs w5 (some ⟨w.heap.size, 0, none⟩) prNames) := L4.out.nw k1
  have G5 : Hid (LayS w5 g (markL 1 16) 16) := G4.out.nw k1
  clear k1 L4 G4
  go_wp2_with fail
  refine Calls.mono (iprops _) ?_
  rintro e w6 ⟨g2, c2, rfl, k1, hg2, l6⟩
  have S6 : Hid (Nw w w6) := S5.out.trans k1
  have L6 : Hid (Strs w6 (some ⟨w.heap.size, 0, none⟩) prNames) := L5.out.nw k1
  have G6 : Hid (LayS w6 g (markL 1 16) 16) := G5.out.nw k1
  have M6 : Hid (LayS w6 g2 prNames 16) := l6
  clear k1 L5 G5 hg2 l6
  go_wp2_with fail
  refine Calls.mono (eqStringS_any _ (some ⟨g2, 0, none⟩) (some ⟨w.heap.size, 0, none⟩) c2 16 prNames (by decide) (LayS.strs M6.out) L6.out) ?_
  rintro e w7 ⟨rfl, k1⟩
  have S7 : Hid (Nw w w7) := S6.out.trans k1
  have G7 : Hid (LayS w7 g (markL 1 16) 16) := G6.out.nw k1
  clear k1 L6 G6 M6
  go_wp2_with fail
  refine Calls.mono (heldS_any w7 g c 1 16 (by omega) (by omega) (by omega) G7.out) ?_
  rintro e w8 ⟨rfl, k1⟩
  go_wp2
  go_ret
  exact ⟨rfl, S7.out.trans k1⟩
end Go.Proofs.Ytaeepbjdhcbofaa
