/-
  New sheets, by the specification: NewSheet; each theorem names its conditions.
-/
import Derived.Test.YthlohbiocfeapaaCvQ
namespace Go.Proofs.Ythlohbiocfeapaa
open Go.ChangeShapes Go.WideShapes Go.ChangeAt Go.RowKit
set_option linter.unusedVariables false

def nsB (x y : Int) : Bool := sdB x && sdB y
def nsD (x y : Int) : MD := if nsB x y then ⟨x, y⟩ else ⟨0, 0⟩
/-- The tints of a new sheet. -/
def nsR (x y : Int) : List Edg := if nsB x y then List.replicate (x * y).toNat noE else []
theorem nsR_len (x y : Int) : (nsR x y).length ≤ 1296 := by
  unfold nsR
  split
  · rename_i h
    unfold nsB at h
    rw [Bool.and_eq_true] at h
    have := (sd_mul h.1 h.2).2
    rw [List.length_replicate]
    omega
  · simp
theorem zeros_lay (w : World) (n : Nat) (t : TypeId) : LayS (w.alloc (.cells (madeCells #[.int .i64 0, .int .i64 0, .int .i64 0, .int .i64 0] (n * 4)) t)) w.heap.size (List.replicate n noE) := by
  have h := LayQ.start w (List.replicate n noE) t
  rw [List.length_replicate] at h
  refine ⟨h.1, fun i hi => ?_, fun i a b => absurd b (by omega), h.2.2.2⟩
  have e : edAt (List.replicate n noE) i = noE := by
    rw [List.length_replicate] at hi
    simp [edAt, hi]
  rw [e]
  exact h.2.2.1 i (Nat.zero_le _) hi
set_option maxRecDepth 100000 in
set_option maxHeartbeats 2000000 in
theorem snew (w : World) (x y : Int) :
    Calls Try.prog 35 #[.int .i64 x, .int .i64 y] w fun e w' => ∃ v, e = .returned (.tuple #[mskV (nsD x y) v, .bool (nsB x y)]) ∧ FrQ w' w.heap.size v (nsR x y) ∧ Nw w w' := by
  have H1 : Hid _ := fun w => sgoodSide w x
  have H2 : Hid _ := fun w => sgoodSide w y
  unfold nsD nsR nsB mskV
  cases b1 : sdB x with
  | false =>
    rw [b1] at H1
    simp only [Bool.false_and, Bool.false_eq_true, if_false]
    clear b1
    go_enter Try.func35, Try.ntmps35
    go_wp2_with fail
    refine Calls.mono (H1.out _) ?_
    rintro e w1 ⟨rfl, rfl⟩
    go_wp2
    exact bodyPost_ret (v := .tuple #[.agg #[.int .i64 0, .int .i64 0, .slice none 0 0], .bool false]) (by simp [results, Try.results35, go_sem]) rfl ⟨_, rfl, FrQ.nil _ _, QBnw _ _⟩
  | true =>
    rw [b1] at H1
    simp only [Bool.true_and]
    cases b2 : sdB y with
    | false =>
      rw [b2] at H2
      simp only [Bool.false_eq_true, if_false]
      clear b1 b2
      go_enter Try.func35, Try.ntmps35
      go_wp2_with fail
      refine Calls.mono (H1.out _) ?_
      rintro e w1 ⟨rfl, rfl⟩
      go_wp2_with fail
      refine Calls.mono (H2.out _) ?_
      rintro e w1 ⟨rfl, rfl⟩
      go_wp2
      exact bodyPost_ret (v := .tuple #[.agg #[.int .i64 0, .int .i64 0, .slice none 0 0], .bool false]) (by simp [results, Try.results35, go_sem]) rfl ⟨_, rfl, FrQ.nil _ _, QBnw _ _⟩
    | true =>
      rw [b2] at H2
      simp only [if_true]
      obtain ⟨m1, m2⟩ := sd_mul b1 b2
      obtain ⟨n, hn⟩ : ∃ n : Nat, x * y = (n : Int) := ⟨(x * y).toNat, by omega⟩
      have hnn : (x * y).toNat = n := by omega
      have hmk := run_mk 55 24 _ 4 32 Try.underlying55 info_tint n (by omega) (by omega)
      have hcs : (Value.agg #[.int .i64 0, .int .i64 0, .int .i64 0, .int .i64 0]).cells = #[.int .i64 0, .int .i64 0, .int .i64 0, .int .i64 0] := rfl
      rw [hcs, ← hn] at hmk
      rw [hnn]
      have HNN : Hid (x * y = (n : Int)) := hn
      clear b1 b2 hcs hnn hn
      go_enter Try.func35, Try.ntmps35
      go_wp2_with fail
      refine Calls.mono (H1.out _) ?_
      rintro e w1 ⟨rfl, rfl⟩
      go_wp2_with fail
      refine Calls.mono (H2.out _) ?_
      rintro e w1 ⟨rfl, rfl⟩
      go_wp2
      refine bodyPost_ret (v := .tuple #[.agg #[.int .i64 x, .int .i64 y, .slice (some ⟨w.heap.size + 1, 0, none⟩) n n], .bool true]) (by simp [results, Try.results35, go_sem]) rfl ⟨_, rfl, ⟨Or.inr ⟨w.heap.size + 1, n, by rw [List.length_replicate], ?_⟩, fun b e => ?_⟩, Nw.trans (QBnw _ _) (QBnw _ _)⟩
      · have h := zeros_lay (w.alloc (.cells #[.int .i64 x, .int .i64 y, .slice (some ⟨w.heap.size + 1, 0, none⟩) n n] 57)) n 24
        rw [World.size_alloc] at h
        exact h
      · have : w.heap.size + 1 = b := by simpa [Value.ownBlock] using e
        omega
end Go.Proofs.Ythlohbiocfeapaa
