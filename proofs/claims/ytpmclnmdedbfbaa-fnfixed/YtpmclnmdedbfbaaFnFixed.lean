/-
  The law FnFixed returns true at every pair of byte slices, and its arguments read afterwards as they read before; there is no further condition.
-/
import Derived.Test.YtpmclnmdedbfbaaDraws
import Derived.Test.YtpmclnmdedbfbaaFixDiv
import Derived.Test.YtpmclnmdedbfbaaFixMul
import Derived.Test.YtpmclnmdedbfbaaFixRoot
import Derived.ShutString
import Derived.ChangeOld
namespace Go.Proofs.Ytpmclnmdedbfbaa
open Go.ChangeShapes Go.WideShapes Go.ChangeAt Go.RowKit

theorem Code.later {w w1 : World} {B B' : Nat} {ca : Option Addr} {len : Nat} (h : Code w B ca len) (hb : Below B w w1) (hB : B ≤ B') : Code w1 B' ca len := by
  rcases h with h | ⟨b, off, h1, h2, h3⟩
  · exact Or.inl h
  · refine Or.inr ⟨b, off, h1, by omega, fun i hi => ?_⟩
    obtain ⟨v, v0, v1, hv⟩ := h3 i hi
    exact ⟨v, v0, v1, by rw [hb.cell (p := ⟨b, off + i, none⟩) h2]; exact hv⟩

/-- Products do not hang on their order. -/
theorem fixMul_three (a b : Int) : ∃ v : Int, (∀ w, Calls Try.prog 10 #[.int .i64 a, .int .i64 b] w fun e w' => e = .returned (.int .i64 v) ∧ Kp w w') ∧ (∀ w, Calls Try.prog 9 #[.int .i64 a, .int .i64 b] w fun e w' => e = .returned (.int .i64 v) ∧ w' = w) ∧ (∀ w, Calls Try.prog 9 #[.int .i64 b, .int .i64 a] w fun e w' => e = .returned (.int .i64 v) ∧ w' = w) := by
  by_cases ha : -1099511627776 ≤ a ∧ a ≤ 1099511627776
  · by_cases hb : -1099511627776 ≤ b ∧ b ≤ 1099511627776
    · obtain ⟨a1, a2⟩ := ha
      obtain ⟨b1, b2⟩ := hb
      by_cases na : a < 0
      · by_cases nb : b < 0
        · exact ⟨_, fun w => sfixMul_nn a b w a1 a2 b1 b2 na nb, fun w => fixMul_nn a b w a1 a2 b1 b2 na nb, fun w => by rw [Int.mul_comm]; exact fixMul_nn b a w b1 b2 a1 a2 nb na⟩
        · exact ⟨_, fun w => sfixMul_np a b w a1 a2 b1 b2 na (by omega), fun w => fixMul_np a b w a1 a2 b1 b2 na (by omega), fun w => by rw [Int.mul_comm]; exact fixMul_pn b a w b1 b2 a1 a2 (by omega) na⟩
      · by_cases nb : b < 0
        · exact ⟨_, fun w => sfixMul_pn a b w a1 a2 b1 b2 (by omega) nb, fun w => fixMul_pn a b w a1 a2 b1 b2 (by omega) nb, fun w => by rw [Int.mul_comm]; exact fixMul_np b a w b1 b2 a1 a2 nb (by omega)⟩
        · exact ⟨_, fun w => sfixMul_pp a b w a1 a2 b1 b2 (by omega) (by omega), fun w => fixMul_pp a b w a1 a2 b1 b2 (by omega) (by omega), fun w => by rw [Int.mul_comm]; exact fixMul_pp b a w b1 b2 a1 a2 (by omega) (by omega)⟩
    · exact ⟨0, fun w => (sfixMul_no2 a b w ha.1 ha.2 hb).mono fun e w' ⟨h1, h2⟩ => ⟨h1, h2 ▸ Kp.refl _⟩, fun w => fixMul_no2 a b w ha.1 ha.2 hb, fun w => fixMul_no b a w hb⟩
  · refine ⟨0, fun w => (sfixMul_no a b w ha).mono fun e w' ⟨h1, h2⟩ => ⟨h1, h2 ▸ Kp.refl _⟩, fun w => fixMul_no a b w ha, fun w => ?_⟩
    by_cases hb : -1099511627776 ≤ b ∧ b ≤ 1099511627776
    · exact fixMul_no2 b a w hb.1 hb.2 ha
    · exact fixMul_no b a w hb

theorem root_small (r x : Int) (h0 : 0 ≤ r) (h : r * r ≤ x * 65536) (hx : x ≤ 1073741824) : r ≤ 16777216 := by
  by_cases hr : r ≤ 16777216
  · exact hr
  · have : 16777217 * 16777217 ≤ r * r := Int.mul_le_mul (by omega) (by omega) (by omega) (by omega)
    omega
theorem sq_small (r : Int) (h0 : 0 ≤ r) (h : r ≤ 16777217) : 0 ≤ r * r ∧ r * r ≤ 281475010265089 :=
  ⟨Int.mul_nonneg h0 h0, Int.mul_le_mul h h h0 (by omega)⟩
end Go.Proofs.Ytpmclnmdedbfbaa

namespace Go.Proofs.Ytpmclnmdedbfbaa.fnFixed
open Go.ChangeShapes Go.WideShapes Go.ChangeAt Go.RowKit
open Go.ChangeMaps (open_string shut_string)
set_option linter.unusedVariables false

theorem own : ownKnob Try.prog.godebug = none := by kernel_rfl
theorem laidOut : laidOutB Try.prog = true := by kernel_rfl

/-- WHAT THE WALK IS TOLD OF A SLICE OF INTEGERS THAT CAME IN: it is nil; or it leads to a row of 'cap' cells, the numbers 'zs' (the first 'len' are its elements, the rest its spare room), each fitting its kind. -/
def IsRow (k : IntKind) (w : World) (a : Option Addr) (len cap : Nat) (zs : List Int) : Prop :=
  (a = none ∧ len = 0 ∧ cap = 0 ∧ zs = []) ∨
  ∃ x, a = some x ∧ len ≤ cap ∧ cap ≤ maxLen ∧ zs.length = cap ∧ (∀ i, i < zs.length → w.cell? (x.add i) = some (.int k (zs.getD i 0))) ∧ ∀ n ∈ zs, (Lit.int k n).wf = true

theorem code_of (w : World) (a : Option Addr) (len cap : Nat) (z : List Int) (h : IsRow .u8 w a len cap z) : Code w w.heap.size a len := by
  rcases h with ⟨_, h, _, _⟩ | ⟨x, rfl, hl, hm, hz, hcell, hwz⟩
  · exact Or.inl h
  · by_cases h0 : len = 0
    · exact Or.inl h0
    · obtain ⟨b, off, spot⟩ := x
      have hc := hcell 0 (by omega)
      have hspot : spot = none := by simpa [Addr.add] using World.cell?_spot hc
      subst hspot
      refine Or.inr ⟨b, off, rfl, World.block_lt_of_cell? w _ hc, fun i hi => ?_⟩
      have hci := hcell i (by omega)
      have hlt : i < z.length := by omega
      have e0 : z.getD i 0 = z[i] := by simp [hlt]
      rw [e0] at hci
      have hw := hwz z[i] (List.getElem_mem _)
      have hbd := bounds_u8 hw
      refine ⟨z[i], hbd.1, hbd.2, ?_⟩
      rw [← hci]
      congr 1
      by_cases h00 : i = 0
      · subst h00; simp [Addr.add]
      · simp [Addr.add, h00]

set_option maxHeartbeats 2000000 in
theorem walk (a0 : Option Addr) (len0 cap0 : Nat) (z0 : List Int) (a1 : Option Addr) (len1 cap1 : Nat) (z1 : List Int) (w : World) (w0 : IsRow .u8 w a0 len0 cap0 z0) (w1 : IsRow .u8 w a1 len1 cap1 z1) :
    Calls Try.prog 3 #[.slice a0 len0 cap0, .slice a1 len1 cap1] w fun e w' => e = .returned (.bool true) ∧ Below w.heap.size w w' := by
  have HC0 : Hid (Code w w.heap.size a0 len0) := code_of w a0 len0 cap0 z0 w0
  have HC1 : Hid (Code w w.heap.size a1 len1) := code_of w a1 len1 cap1 z1 w1
  have ml0 : len0 ≤ maxLen := by
    rcases w0 with ⟨_, h, _, _⟩ | ⟨x, _, hl, hm, _, _, _⟩
    · omega
    · omega
  have ml1 : len1 ≤ maxLen := by
    rcases w1 with ⟨_, h, _, _⟩ | ⟨x, _, hl, hm, _, _, _⟩
    · omega
    · omega
  unfold maxLen at ml0 ml1
  clear w0 w1
  by_cases hbig : 1048576 < wrap64 ((len0 : Int) + (len1 : Int))
  · go_enter Try.func3, Try.ntmps3
    go_wp2
    go_ret
    exact ⟨rfl, Below.refl _ _⟩
  · go_enter Try.func3, Try.ntmps3
    go_wp2_with fail
    refine (drawMul_any w a0 len0 cap0 (by omega) HC0.out).mono ?_
    rintro e w1 ⟨a, b, rfl, ha, hb, hb1⟩
    have HE1 : Hid (Below w.heap.size w w1) := hb1
    obtain ⟨v, hv1, hv2, hv3⟩ := fixMul_three a b
    obtain ⟨u, hu1, hu2⟩ := fixDiv_both a b
    have V1 : Hid _ := hv1
    have V2 : Hid _ := hv2
    have V3 : Hid _ := hv3
    have U1 : Hid _ := hu1
    have U2 : Hid _ := hu2
    clear ha hb hb1 hv1 hv2 hv3 hu1 hu2
    go_wp2_with fail
    refine (V2.out _).mono ?_; rintro e w' ⟨rfl, rfl⟩
    go_wp2_with fail
    refine (V1.out _).mono ?_; rintro e w2 ⟨rfl, hk⟩
    have HE2 : Hid (Below w.heap.size w w2) := HE1.out.trans (hk.1.mono HE1.out.size)
    clear hk
    go_wp2_with fail
    refine (V2.out _).mono ?_; rintro e w' ⟨rfl, rfl⟩
    go_wp2_with fail
    refine (V3.out _).mono ?_; rintro e w' ⟨rfl, rfl⟩
    go_wp2_with fail
    refine (U2.out _).mono ?_; rintro e w' ⟨rfl, rfl⟩
    go_wp2_with fail
    refine (U1.out _).mono ?_; rintro e w3 ⟨rfl, hk⟩
    have HE3 : Hid (Below w.heap.size w w3) := HE2.out.trans (hk.1.mono HE2.out.size)
    clear hk
    go_wp2_with fail
    refine (drawRoot_any w3 a1 len1 cap1 (by omega) (HC1.out.later HE3.out HE3.out.size)).mono ?_
    rintro e w4 ⟨x, rfl, hx, hb4⟩
    have HE4 : Hid (Below w.heap.size w w4) := HE3.out.trans (hb4.mono HE3.out.size)
    have xb := bounds_i64 hx
    clear hb4 hx
    obtain ⟨x1, x2⟩ := xb
    by_cases c : 0 ≤ x ∧ x ≤ 1073741824
    · obtain ⟨c1, c2⟩ := c
      have d1 : decide (x < 0) = false := by simp; omega
      have d2 : decide (1073741824 < x) = false := by simp; omega
      go_wp2_with fail
      refine (fixRoot_yes x _ c1 (by omega)).mono ?_
      rintro e w' ⟨r, rfl, r0, r1, r2, rfl⟩
      have rs := root_small r x r0 r1 c2
      obtain ⟨q1, q2⟩ := sq_small r r0 (by omega)
      obtain ⟨q3, q4⟩ := sq_small (r + 1) (by omega) (by omega)
      have d3 : decide (r * r ≤ x * 65536) = true := by simpa using r1
      have d4 : decide (x * 65536 < (r + 1) * (r + 1)) = true := by simpa using r2
      go_wp2
      go_ret
      exact ⟨rfl, HE4.out⟩
    · obtain ⟨v5, hs5, hi5⟩ := fixRoot_both x
      have S5 : Hid _ := hs5
      have I5 : Hid _ := hi5
      clear hs5 hi5
      go_wp2_with fail
      refine (I5.out _).mono ?_; rintro e w' ⟨rfl, rfl⟩
      by_cases c3 : x < 0
      · clear c
        go_wp2_with fail
        refine (S5.out _).mono ?_; rintro e w5 ⟨rfl, hk⟩
        have HE5 : Hid (Below w.heap.size w w5) := HE4.out.trans (hk.1.mono HE4.out.size)
        clear hk
        go_wp2
        go_ret
        exact ⟨rfl, HE5.out⟩
      · have c4 : 1073741824 < x := by omega
        clear c
        have d1 : decide (x < 0) = false := by simp; omega
        go_wp2_with fail
        refine (S5.out _).mono ?_; rintro e w5 ⟨rfl, hk⟩
        have HE5 : Hid (Below w.heap.size w w5) := HE4.out.trans (hk.1.mono HE4.out.size)
        clear hk
        go_wp2
        go_ret
        exact ⟨rfl, HE5.out⟩

/-! ### THE ROW's STEP: WRITTEN OUT: LEAVE IT -/
set_option maxRecDepth 100000 in
theorem lifted (os : Os) (started : os.Started) (H : Type) (enc : TypeId × Value → H) :
    ReturnsInHanded {} Try.checked os 3 .any (Rows.fnFixedSpec.pre6 enc Try.prog Try.f3 Rows.fnFixedRow.domain false) (Rows.fnFixedSpec.post enc Try.prog Try.f3 false true false false) := by
  refine returnsInHanded_of_change (C := Try.checked) own started (by kernel_rfl) Try.func3
    (ChangeSpec.witness6 (enc := enc) (C := Try.checked) false ⟨#[], #[.slice none 0 0, .slice none 0 0], []⟩ 8 (by kernel_rfl) (by kernel_rfl) (by kernel_rfl) (by kernel_rfl)) ?_
  intro W base args ds gs before hval0 hW hcnd _
  have hval : ∀ (j : Nat) t v, Try.f3.params[j]? = some t → args[j]? = some v → Value.okWide Try.prog W .any base t v := hval0
  have hW' := hW
  obtain ⟨p, q, hA0, hV, rfl, hfz, hnd⟩ := hW
  have hA : DataW.TrodAll enc Try.prog W 0 (fun _ => true) true Try.f3.params.toList args.toList ds p := hA0
  rw [Try.params3] at hA hval
  obtain ⟨v0, vs0, d0, ds0, p0, q0, hargs, rfl, rfl, h0, r0⟩ := trodAll_cons hA
  obtain ⟨v1, vs1, d1, ds1, p1, q1, rfl, rfl, rfl, h1, r1⟩ := trodAll_cons r0
  obtain ⟨rfl, rfl, rfl⟩ := trodAll_nil r1
  obtain rfl : args = #[v0, v1] := by cases args; simp_all
  obtain ⟨rfl, rfl⟩ := trodVars_none hV
  obtain ⟨a0, len0, cap0, rfl⟩ := okWide_slice Try.underlying22 (hval 0 22 v0 rfl rfl)
  have k0 := h0
  have lt0 : ∀ x ∈ p0, x.block < W.heap.size := by obtain ⟨m, hm⟩ := k0; exact DataW.trod_lt m _ _ _ hm
  obtain ⟨z0, w0⟩ : ∃ zs, IsRow .u8 W a0 len0 cap0 zs := by
    obtain ⟨fuel, hf⟩ := h0
    rcases open_ints Try.underlying22 Try.underlying5 (by kernel_rfl) hf with ⟨hcs, _⟩ | ⟨x, l, c, zs, hcs, _, hl, hm, hz, _, hcell, hwz⟩
    · simp [Value.cells] at hcs
      obtain ⟨rfl, rfl, rfl⟩ := hcs
      exact ⟨[], .inl ⟨rfl, rfl, rfl, rfl⟩⟩
    · simp [Value.cells] at hcs
      obtain ⟨rfl, rfl, rfl⟩ := hcs
      exact ⟨zs, .inr ⟨_, rfl, hl, hm, by simpa using hz, hcell, hwz⟩⟩
  obtain ⟨a1, len1, cap1, rfl⟩ := okWide_slice Try.underlying22 (hval 1 22 v1 rfl rfl)
  have k1 := h1
  have lt1 : ∀ x ∈ p1, x.block < W.heap.size := by obtain ⟨m, hm⟩ := k1; exact DataW.trod_lt m _ _ _ hm
  obtain ⟨z1, w1⟩ : ∃ zs, IsRow .u8 W a1 len1 cap1 zs := by
    obtain ⟨fuel, hf⟩ := h1
    rcases open_ints Try.underlying22 Try.underlying5 (by kernel_rfl) hf with ⟨hcs, _⟩ | ⟨x, l, c, zs, hcs, _, hl, hm, hz, _, hcell, hwz⟩
    · simp [Value.cells] at hcs
      obtain ⟨rfl, rfl, rfl⟩ := hcs
      exact ⟨[], .inl ⟨rfl, rfl, rfl, rfl⟩⟩
    · simp [Value.cells] at hcs
      obtain ⟨rfl, rfl, rfl⟩ := hcs
      exact ⟨zs, .inr ⟨_, rfl, hl, hm, by simpa using hz, hcell, hwz⟩⟩
  clear hA0 hval0
  refine (walk a0 len0 cap0 z0 a1 len1 cap1 z1 W w0 w1).mono fun e W' ⟨he, bel⟩ => ?_
  subst he
  exact ⟨_, rfl, _, _, _, [], _, [], hW', trodAll_mk1 (shut_bool Try.underlying4 _), (trodAll_cons_mk (Below.trod laidOut (by kernel_rfl) (of_decide_eq_true (by kernel_rfl)) k0 bel lt0) (trodAll_cons_mk (Below.trod laidOut (by kernel_rfl) (of_decide_eq_true (by kernel_rfl)) k1 bel lt1) trodAll_mk0)), rfl, bel.frame _, fun h => by cases h⟩

theorem over : Rows.fnFixedRow.holds Try.pinned (OpenSpec.ofChange Rows.fnFixedSpec) :=
  OpenClaim.holds_of_wide 3 Try.f3 rfl rfl rfl rfl rfl rfl rfl ⟨rfl, rfl, rfl, rfl, rfl⟩ rfl rfl rfl rfl rfl (by kernel_rfl) Try.func3 (by kernel_rfl)
    (of_decide_eq_true (by kernel_rfl)) (by unfold Func.isWrapper; first | (rw [if_pos (by decide +kernel)]; kernel_rfl) | (rw [if_neg (by decide +kernel)]; exact ⟨rfl, rfl⟩))
    (fun os started H enc _ => lifted os started H enc)

/-- ████ THE STATEMENT ████ -/
theorem proved : Rows.FnFixedSaid := over
#print axioms proved
end Go.Proofs.Ytpmclnmdedbfbaa.fnFixed
