/-
  What putDistance does; its conditions stand in the theorem.
-/
import Derived.Test.YteehoihkbcbbgaaDoorSteps
import Derived.Deep.RegionHeld3
namespace Go.Proofs.YteehoihkbcbbgaaDoor
open Go.ChangeShapes Go.WideShapes Go.ChangeAt Go.RowKit
set_option linter.unusedVariables false

set_option maxHeartbeats 2000000 in
theorem putDistance_any (W : World) (S : Nat) (s : List Nat × Nat) (n : Nat) (ht : Tabs W) (hS : 4 ≤ S) (hn : 1 ≤ n) (hn2 : n ≤ 6000) (hl : s.1.length ≤ 800000) (hfi : Fine s) (hs : Sink W S s.1 s.2) :
    Calls Tryd.prog 29 #[.iface 36 (.pointer (some ⟨S, 0, none⟩)), .int .i64 n] W fun e w' => e = .returned (.tuple #[]) ∧ Sink w' S (puts (puts s (codeOf (dp n) 5)) (bitsOf (n - DB (dp n)) (DE (dp n)))).1 (puts (puts s (codeOf (dp n) 5)) (bitsOf (n - DB (dp n)) (DE (dp n)))).2 ∧ Below S W w' := by
  have hdp : dp n < 30 := by have := dn_le DB n 29; unfold dp; omega
  have hfit : DB (dp n) ≤ n := dn_fit DB n 29 (by show 1 ≤ n; exact hn)
  have hbd := DB_bd (dp n) hdp
  have HP : Hid (Calls Tryd.prog 58 #[.int .i64 n] W fun e w' => e = .returned (.int .i64 (dp n : Int)) ∧ w' = W) := distancePlace_any n W ht (by show 1 ≤ n; exact hn) (by omega)
  have HC1 : Hid (∀ k5 : Nat, k5 = 5 → Calls Tryd.prog 27 #[.iface 36 (.pointer (some ⟨S, 0, none⟩)), .int .i64 (dp n : Int), .int .i64 (k5 : Int)] W fun e w' => e = .returned (.tuple #[]) ∧ Sink w' S (puts s (codeOf (dp n) 5)).1 (puts s (codeOf (dp n) 5)).2 ∧ Below S W w') := by
    intro k5 hk5; subst hk5; exact putCode_any W S s (dp n) 5 (by omega) (by omega) (by omega) hfi hs
  have hpl := puts_len s (codeOf (dp n) 5)
  rw [codeOf_len] at hpl
  have hf2 := fine_puts s (codeOf (dp n) 5) hfi (codeOf_bits' _ _)
  have HC2 : Hid (∀ W', Sink W' S (puts s (codeOf (dp n) 5)).1 (puts s (codeOf (dp n) 5)).2 → Calls Tryd.prog 23 #[.iface 36 (.pointer (some ⟨S, 0, none⟩)), .int .i64 ((n : Int) - (DB (dp n) : Int)), .int .i64 (DE (dp n) : Int)] W' fun e w' => e = .returned (.tuple #[]) ∧ Sink w' S (puts (puts s (codeOf (dp n) 5)) (bitsOf (n - DB (dp n)) (DE (dp n)))).1 (puts (puts s (codeOf (dp n) 5)) (bitsOf (n - DB (dp n)) (DE (dp n)))).2 ∧ Below S W' w') := by
    intro W' h
    rw [show ((n : Int) - (DB (dp n) : Int)) = ((n - DB (dp n) : Nat) : Int) by omega]
    exact putNumber_any W' S _ (n - DB (dp n)) (DE (dp n)) (by omega) (by omega) (by omega) hf2 h
  have HT : Hid (Tabs W) := ht
  clear ht hf2 hpl
  generalize puts (puts s (codeOf (dp n) 5)) (bitsOf (n - DB (dp n)) (DE (dp n))) = s2 at *
  generalize puts s (codeOf (dp n) 5) = s1 at *
  go_enter Tryd.func29, Tryd.ntmps29
  go_wp2_with fail
  refine Calls.mono HP.out ?_
  rintro e W ⟨rfl, rfl⟩
  go_wp2_with fail
  refine Calls.mono (HC1.out 5 rfl) ?_
  rintro e w1 ⟨rfl, h1, h2⟩
  have HS1 : Hid (Sink w1 S s1.1 s1.2) := h1
  have HB1 : Hid (Below S W w1) := h2
  have ht1 := HT.out.below h2 hS
  have c2 := ht1.2.2.1 (dp n) hdp
  have c3 := ht1.2.2.2.1 (dp n) hdp
  clear h1 h2 ht1
  have x30 : (dp n : Int) < 30 := by omega
  generalize dp n = k at *
  generalize DB k = B at *
  generalize DE k = E at *
  have hw := IntWalk.i64_in ((n : Int) - (B : Int)) (by omega)
  go_wp2
  go_region_held3 (fun w' => w'.cell? ⟨2, k, none⟩ = some (.int .i64 (B : Int)) ∧ w'.cell? ⟨3, k, none⟩ = some (.int .i64 (E : Int))) (first | exact ⟨c2, c3⟩ | exact ⟨(HB2.out.cell (p := ⟨2, k, none⟩) (by show 2 < S; omega)).trans c2, (HB2.out.cell (p := ⟨3, k, none⟩) (by show 3 < S; omega)).trans c3⟩)
    (first
      | (go_at_call 23; refine Calls.mono (HC2.out _ ?_) ?_; exact HS1.out; rintro e w2 ⟨rfl, hs2, hb2⟩; have HS2 : Hid (Sink w2 S s2.1 s2.2) := hs2; have HB2 : Hid (Below S w1 w2) := (Below.refl S w1).drew.trans hb2; clear hs2 hb2))
  go_wp2
  go_returns
  exact ⟨rfl, HS2.out, HB1.out.trans HB2.out⟩
end Go.Proofs.YteehoihkbcbbgaaDoor
