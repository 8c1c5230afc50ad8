/-
  What the specification's reader of choices (l1Cur) answers: some number within bounds, and nothing that was there ahead of it is written; each theorem names its conditions.
-/
import Derived.Test.YthlohbiocfeapaaLow
import Derived.Laws.Bits64b
import Derived.Laws.Externs
import Derived.Laws.Pointers
import Derived.StillTactics
import Derived.BigRegion
namespace Go.Proofs.Ythlohbiocfeapaa
open Go.ChangeShapes Go.WideShapes Go.ChangeAt Go.RowKit
set_option linter.unusedVariables false

theorem Sel.drew {B : Nat} {a b : World} (h : Sel B a b) : Sel B a b.drew := ⟨h.os, h.tape, h.output, h.size, h.block⟩
theorem Sel.cell {B : Nat} {w w' : World} (h : Sel B w w') {p : Addr} (hp : p.block ≠ B) : w'.cell? p = w.cell? p := World.cell?_of_block (w := w) (h.block p.block hp)

/-- The bytes that a reader reads lie below B. -/
def Code (w : World) (B : Nat) (ca : Option Addr) (len : Nat) : Prop :=
  len = 0 ∨ ∃ b off, ca = some ⟨b, off, none⟩ ∧ b < B ∧ ∀ i, i < len → ∃ v : Int, 0 ≤ v ∧ v ≤ 255 ∧ w.cell? ⟨b, off + i, none⟩ = some (.int .u8 v)
/-- A reader in the block B. -/
def Cur (w : World) (B : Nat) (ca : Option Addr) (len cap : Nat) (n : Nat) : Prop :=
  ∃ (k : Nat) (sd : Int), k ≤ n ∧ 0 ≤ sd ∧ sd < 18446744073709551616 ∧ w.cell? ⟨B, 0, none⟩ = some (.slice ca len cap) ∧ w.cell? ⟨B, 1, none⟩ = some (.int .i64 (k : Int)) ∧ w.cell? ⟨B, 2, none⟩ = some (.int .u64 sd) ∧ (∀ o, w.frozen? ⟨B, o, none⟩ = false) ∧ B < w.heap.size

theorem and_byte (a : Int) (h0 : 0 ≤ a) (h : a < 18446744073709551616) : bits .and .u64 a 255 = a % 256 := by
  obtain ⟨x, rfl⟩ := Int.eq_ofNat_of_zero_le h0
  have e := bits_and_u64_nat x 255 (by omega) (by omega)
  have e2 : x &&& 255 = x % 256 := Nat.and_two_pow_sub_one_eq_mod x 8
  rw [e2] at e
  exact e

theorem cur_set (w : World) (B : Nat) (ca : Option Addr) (len cap n k : Nat) (sd S : Int) (hk : k ≤ n) (S0 : 0 ≤ S) (S1 : S < 18446744073709551616) (c0 : w.cell? ⟨B, 0, none⟩ = some (.slice ca len cap)) (c1 : w.cell? ⟨B, 1, none⟩ = some (.int .i64 (k : Int))) (c2 : w.cell? ⟨B, 2, none⟩ = some (.int .u64 sd)) (hf : ∀ o, w.frozen? ⟨B, o, none⟩ = false) (hB : B < w.heap.size) :
    Cur ((w.setCell ⟨B, 1, none⟩ (.int .i64 ((k : Int) + 1))).setCell ⟨B, 2, none⟩ (.int .u64 S)) B ca len cap (n + 1) ∧ Sel B w ((w.setCell ⟨B, 1, none⟩ (.int .i64 ((k : Int) + 1))).setCell ⟨B, 2, none⟩ (.int .u64 S)) := by
  refine ⟨⟨k + 1, S, by omega, S0, S1, ?_, ?_, ?_, ?_, by simpa [World.setCell] using hB⟩, ((Sel.refl B w).setCell _ _).setCell _ _⟩
  · rw [World.cell?_setCell_other _ _ _ _ (by simp), World.cell?_setCell_other _ _ _ _ (by simp)]; exact c0
  · rw [World.cell?_setCell_other _ _ _ _ (by simp)]
    rw [World.cell?_setCell_same (u := .int .i64 (k : Int)) (h := c1)]; rfl
  · apply World.cell?_setCell_same (u := .int .u64 sd)
    rw [World.cell?_setCell_other _ _ _ _ (by simp)]; exact c2
  · intro o; rw [World.frozen?_setCell, World.frozen?_setCell]; exact hf o

theorem wrap_bd (x : Int) : 0 ≤ IntKind.u64.wrap x ∧ IntKind.u64.wrap x < 18446744073709551616 := by rw [IntKind.wrap_u64]; omega

theorem seed_bd (X : Int) : 0 ≤ wrap64 (bits .and .u64 (IntKind.u64.wrap X / 1099511627776) 255) ∧ wrap64 (bits .and .u64 (IntKind.u64.wrap X / 1099511627776) 255) ≤ 255 := by
  have h := wrap_bd X
  rw [and_byte _ (by omega) (by omega)]
  generalize IntKind.u64.wrap X = Y at *
  rw [IntWalk.wrap64_in _ ⟨by omega, by omega⟩]
  omega

set_option maxHeartbeats 1000000 in
theorem next_any (w : World) (B : Nat) (ca : Option Addr) (len cap n : Nat) (hl : len ≤ 9223372036854775807) (hn : n ≤ 1099511627776) (hc : Cur w B ca len cap n) (hd : Code w B ca len) :
    Calls Try.prog 108 #[.pointer (some ⟨B, 0, none⟩)] w fun e w' => ∃ v : Int, e = .returned (.int .i64 v) ∧ 0 ≤ v ∧ v ≤ 255 ∧ Cur w' B ca len cap (n + 1) ∧ Sel B w w' := by
  obtain ⟨k, sd, hk, s0, s1, c0, c1, c2, hf, hB⟩ := hc
  by_cases hlt : k < len
  · rcases hd with h | ⟨b, off, rfl, hb, hcs⟩
    · exact absurd hlt (by omega)
    · obtain ⟨v, v0, v1, hv⟩ := hcs k hlt
      clear hcs
      have HC := fun S S0 S1 => Hid.out (cur_set w B (some ⟨b, off, none⟩) len cap n k sd S hk S0 S1 c0 c1 c2 hf hB)
      have HC' : Hid _ := HC
      clear HC
      go_enter Try.func108, Try.ntmps108
      go_wp2
      go_region
      go_wp2
      go_region
      go_wp2
      go_region
      go_wp2
      go_ret
      exact ⟨v, rfl, v0, v1, (HC'.out _ (wrap_bd _).1 (wrap_bd _).2).1, (HC'.out _ (wrap_bd _).1 (wrap_bd _).2).2.drew.drew.drew⟩
  · have HC := fun S S0 S1 => Hid.out (cur_set w B ca len cap n k sd S hk S0 S1 c0 c1 c2 hf hB)
    have HC' : Hid _ := HC
    clear HC
    go_enter Try.func108, Try.ntmps108
    go_wp2
    go_region
    go_wp2
    go_region
    go_wp2
    go_ret
    exact ⟨_, rfl, (seed_bd _).1, (seed_bd _).2, (HC'.out _ (wrap_bd _).1 (wrap_bd _).2).1, (HC'.out _ (wrap_bd _).1 (wrap_bd _).2).2.drew.drew⟩

theorem Code.below {w w1 : World} {B : Nat} {ca : Option Addr} {len : Nat} (h : Code w B ca len) (hb : Below B w w1) : Code w1 B ca len := by
  rcases h with h | ⟨b, off, h1, h2, h3⟩
  · exact Or.inl h
  · refine Or.inr ⟨b, off, h1, h2, fun i hi => ?_⟩
    obtain ⟨v, v0, v1, hv⟩ := h3 i hi
    exact ⟨v, v0, v1, by rw [hb.cell (p := ⟨b, off + i, none⟩) h2]; exact hv⟩
theorem Cur.mono {w : World} {B : Nat} {ca : Option Addr} {len cap n m : Nat} (h : Cur w B ca len cap n) (hm : n ≤ m) : Cur w B ca len cap m := by
  obtain ⟨k, sd, h1, h2⟩ := h
  exact ⟨k, sd, by omega, h2⟩

set_option maxHeartbeats 1000000 in
theorem pick_any (w : World) (B : Nat) (ca : Option Addr) (len cap n : Nat) (m : Int) (hl : len ≤ 9223372036854775807) (hn : n ≤ 1000000000) (m1 : 1 ≤ m) (m2 : m ≤ 1000000) (hc : Cur w B ca len cap n) (hd : Code w B ca len) :
    Calls Try.prog 61 #[.pointer (some ⟨B, 0, none⟩), .int .i64 m] w fun e w' => ∃ v : Int, e = .returned (.int .i64 v) ∧ 0 ≤ v ∧ v < m ∧ Cur w' B ca len cap (n + 2) ∧ Sel B w w' := by
  have HC : Hid _ := hc
  have HD : Hid _ := hd
  clear hc hd
  by_cases h1 : m = 1
  · subst h1
    go_enter Try.func61, Try.ntmps61
    go_wp2
    go_ret
    exact ⟨0, rfl, by omega, by omega, Cur.mono HC.out (by omega), Sel.refl _ _⟩
  have d1 : decide (m ≤ 1) = false := decide_eq_false (by omega)
  by_cases h2 : m ≤ 200
  · go_enter Try.func61, Try.ntmps61
    go_wp2_with fail
    refine (next_any w B ca len cap n hl (by omega) HC.out HD.out).mono ?_
    rintro e w1 ⟨v, rfl, v0, v1, hc1, hb1⟩
    have HC1 : Hid _ := hc1
    have HB1 : Hid _ := hb1
    clear hc1 hb1
    have x1 := Int.emod_nonneg v (b := m) (by omega)
    have x2 := Int.emod_lt_of_pos v (b := m) (by omega)
    go_wp2
    go_ret
    exact ⟨v % m, rfl, x1, x2, Cur.mono HC1.out (by omega), HB1.out⟩
  · go_enter Try.func61, Try.ntmps61
    go_wp2_with fail
    refine (next_any w B ca len cap n hl (by omega) HC.out HD.out).mono ?_
    rintro e w1 ⟨v, rfl, v0, v1, hc1, hb1⟩
    have HC1 : Hid _ := hc1
    have HB1 : Hid _ := hb1
    clear hc1 hb1
    go_wp2_with fail
    refine (next_any w1 B ca len cap (n + 1) hl (by omega) HC1.out (Code.below HD.out (Sel.below HB1.out))).mono ?_
    rintro e w2 ⟨u, rfl, u0, u1, hc2, hb2⟩
    have HC2 : Hid _ := hc2
    have HB2 : Hid _ := hb2
    clear hc2 hb2
    have x1 := Int.emod_nonneg (v * 256 + u) (b := m) (by omega)
    have x2 := Int.emod_lt_of_pos (v * 256 + u) (b := m) (by omega)
    go_wp2
    go_ret
    exact ⟨(v * 256 + u) % m, rfl, x1, x2, HC2.out, Sel.trans HB1.out HB2.out⟩

set_option maxHeartbeats 1000000 in
theorem one_any (w : World) (B : Nat) (ca : Option Addr) (len cap n : Nat) (m : Int) (hl : len ≤ 9223372036854775807) (hn : n ≤ 1000000000) (m1 : 1 ≤ m) (m2 : m ≤ 1000000) (hc : Cur w B ca len cap n) (hd : Code w B ca len) :
    Calls Try.prog 62 #[.pointer (some ⟨B, 0, none⟩), .int .i64 m] w fun e w' => ∃ v : Bool, e = .returned (.bool v) ∧ Cur w' B ca len cap (n + 2) ∧ Sel B w w' := by
  have HC : Hid _ := hc
  have HD : Hid _ := hd
  clear hc hd
  go_enter Try.func62, Try.ntmps62
  go_wp2_with fail
  refine (pick_any w B ca len cap n m hl hn m1 m2 HC.out HD.out).mono ?_
  rintro e w1 ⟨v, rfl, v0, v1, hc1, hb1⟩
  have HC1 : Hid _ := hc1
  have HB1 : Hid _ := hb1
  clear hc1 hb1
  go_wp2
  go_ret
  exact ⟨_, rfl, HC1.out, HB1.out⟩

/-- A list of numbers that is only read, in the block L. -/
def Nums (w : World) (L : Nat) (l : List Int) : Prop := ∀ i (h : i < l.length), w.cell? ⟨L, i, none⟩ = some (.int .i64 l[i])

set_option maxHeartbeats 1000000 in
theorem among_any (w : World) (B L ln : Nat) (l : List Int) (hln : l.length = ln) (ca : Option Addr) (len cap n : Nat) (hl : len ≤ 9223372036854775807) (hn : n ≤ 1000000000) (l1 : 2 ≤ ln) (l2 : ln ≤ 1000) (hLB : L ≠ B) (hN : Nums w L l) (hc : Cur w B ca len cap n) (hd : Code w B ca len) :
    Calls Try.prog 64 #[.pointer (some ⟨B, 0, none⟩), .slice (some ⟨L, 0, none⟩) ln ln] w fun e w' => ∃ v : Int, e = .returned (.int .i64 v) ∧ v ∈ l ∧ Cur w' B ca len cap (n + 2) ∧ Sel B w w' := by
  have HC : Hid _ := hc
  have HD : Hid _ := hd
  have HN : Hid _ := hN
  have HL : Hid _ := hln
  clear hc hd hN hln
  go_enter Try.func64, Try.ntmps64
  go_wp2_with fail
  refine (pick_any w B ca len cap n ln hl hn (by omega) (by omega) HC.out HD.out).mono ?_
  rintro e w1 ⟨i, rfl, i0, i1, hc1, hb1⟩
  obtain ⟨k, rfl⟩ := Int.eq_ofNat_of_zero_le i0
  have hkl : k < l.length := by rw [HL.out]; omega
  have HM : Hid (l[k] ∈ l) := List.getElem_mem _
  have hv := HN.out k hkl
  generalize l[k] = v at *
  have hv1 : w1.cell? ⟨L, k, none⟩ = some (.int .i64 v) := by rw [hb1.cell (p := ⟨L, k, none⟩) hLB]; exact hv
  have HC1 : Hid _ := hc1
  have HB1 : Hid _ := hb1
  clear hc1 hb1 hv hkl
  go_wp2
  go_ret
  exact ⟨v, rfl, HM.out, HC1.out, HB1.out⟩

end Go.Proofs.Ythlohbiocfeapaa
