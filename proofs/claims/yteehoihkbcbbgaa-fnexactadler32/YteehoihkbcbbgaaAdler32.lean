/-
  The law on Adler32 returns true at every argument, and its arguments read afterwards as they read before; there is no further condition.
-/
import Derived.Test.YteehoihkbcbbgaaFrame
import Derived.Test.YteehoihkbcbbgaaAdler
import Derived.ShutString
import Derived.ChangeOld
namespace Go.Proofs.Yteehoihkbcbbgaa
open Go.ChangeShapes Go.WideShapes Go.ChangeAt Go.RowKit
set_option linter.unusedVariables false

set_option maxHeartbeats 8000000 in
theorem walkAdler32 (w : World) (ab : Option Addr) (capb : Nat) (zb : List Int) (hrb : Row .u8 w ab zb) (hlb : zb.length ≤ 1048576) (r0 : Int)
    (hS : ∀ W bb cb, At W bb zb → Calls Try.prog 8 #[.slice (some ⟨bb, 0, none⟩) zb.length cb] W fun e w' => e = .returned (.int .u32 r0) ∧ Nw W w')
    (hI : ∀ W bb cb, At W bb zb → Calls Try.prog 10 #[.slice (some ⟨bb, 0, none⟩) zb.length cb] W fun e w' => e = .returned (.int .u32 r0) ∧ Nw W w') :
    Calls Try.prog 3 #[.slice ab zb.length capb] w fun e w' => e = .returned (.bool true) ∧ Below w.heap.size w w' := by
  have hbdb : decide ((1048576 : Int) < (zb.length : Int)) = false := by simp; omega
  have HRb : Hid (Row .u8 w ab zb) := hrb
  have HS : Hid _ := hS
  have HI : Hid _ := hI
  clear hrb hS hI
  have hq0 : (r0 != r0) = false := by simp
  go_enter Try.func3, Try.ntmps3
  go_wp2_with fail
  refine Calls.mono (toByte_at w ab capb zb HRb.out hlb) ?_
  rintro e w1 ⟨rfl, k1, t1⟩
  have x1 : w.heap.size < w1.heap.size := t1.1
  have Opb_1 : Hid (At w1 w.heap.size zb) := t1
  clear t1
  have S1 : Hid (Below w.heap.size w w1) := Below.trans (Below.refl w.heap.size w) (Below.mono k1 (Below.size (Below.refl w.heap.size w)))
  have y1 : w.heap.size ≤ w1.heap.size := Below.size k1
  clear k1 
  go_wp2_with fail
  refine Calls.mono (HS.out w1 _ _ Opb_1.out) ?_
  rintro e w2 ⟨rfl, k1⟩
  have S2 : Hid (Below w.heap.size w w2) := Below.trans S1.out (Below.mono k1 (Below.size S1.out))
  have y2 : w1.heap.size ≤ w2.heap.size := Below.size k1
  have Opb_2 : Hid (At w2 w.heap.size zb) := At.nw Opb_1.out k1
  clear k1 Opb_1 S1
  clear Opb_2
  go_wp2_with fail
  refine Calls.mono (toByte_at w2 ab capb zb (Row.below HRb.out S2.out) hlb) ?_
  rintro e w3 ⟨rfl, k1, t1⟩
  have x3 : w2.heap.size < w3.heap.size := t1.1
  have Oxb_3 : Hid (At w3 w2.heap.size zb) := t1
  clear t1
  have S3 : Hid (Below w.heap.size w w3) := Below.trans S2.out (Below.mono k1 (Below.size S2.out))
  have y3 : w2.heap.size ≤ w3.heap.size := Below.size k1
  clear k1  S2
  go_wp2_with fail
  refine Calls.mono (HI.out w3 _ _ Oxb_3.out) ?_
  rintro e w4 ⟨rfl, k1⟩
  have S4 : Hid (Below w.heap.size w w4) := Below.trans S3.out (Below.mono k1 (Below.size S3.out))
  have y4 : w3.heap.size ≤ w4.heap.size := Below.size k1
  have Oxb_4 : Hid (At w4 w2.heap.size zb) := At.nw Oxb_3.out k1
  clear k1 Oxb_3 S3
  go_wp2_with fail
  refine Calls.mono (toByte_at w4 ab capb zb (Row.below HRb.out S4.out) hlb) ?_
  rintro e w5 ⟨rfl, k1, t1⟩
  have x5 : w4.heap.size < w5.heap.size := t1.1
  have Oyb_5 : Hid (At w5 w4.heap.size zb) := t1
  clear t1
  have S5 : Hid (Below w.heap.size w w5) := Below.trans S4.out (Below.mono k1 (Below.size S4.out))
  have y5 : w4.heap.size ≤ w5.heap.size := Below.size k1
  have Oxb_5 : Hid (At w5 w2.heap.size zb) := At.nw Oxb_4.out k1
  clear k1 Oxb_4 S4
  go_wp2_with fail
  refine Calls.mono (eqByte_at w5 _ _ _ _ _ zb rfl hlb Oxb_5.out Oyb_5.out) ?_
  rintro e w6 ⟨rfl, k1⟩
  have S6 : Hid (Below w.heap.size w w6) := Below.trans S5.out (Below.mono k1 (Below.size S5.out))
  have y6 : w5.heap.size ≤ w6.heap.size := Below.size k1
  have Oxb_6 : Hid (At w6 w2.heap.size zb) := At.nw Oxb_5.out k1
  have Oyb_6 : Hid (At w6 w4.heap.size zb) := At.nw Oyb_5.out k1
  clear k1 Oxb_5 Oyb_5 S5
  clear Oyb_6
  go_wp2
  go_ret
  exact ⟨rfl, S6.out⟩

theorem allAdler32 (w : World) (a : Option Addr) (cap : Nat) (zs : List Int) (hr : Row .u8 w a zs) (hl : zs.length ≤ 1048576) (h8 : ∀ z ∈ zs, 0 ≤ z ∧ z ≤ 255) :
    Calls Try.prog 3 #[.slice a zs.length cap] w fun e w' => e = .returned (.bool true) ∧ Below w.heap.size w w' := by
  refine walkAdler32 w a cap zs hr hl (adler zs) ?_ ?_
  · intro W b c ha
    refine (sadler W _ c zs ha.row hl h8).mono ?_
    rintro e w' ⟨rfl, rfl⟩
    exact ⟨rfl, Below.refl _ _⟩
  · intro W b c ha
    refine (iadler W _ c zs ha.row hl h8).mono ?_
    rintro e w' ⟨rfl, rfl⟩
    exact ⟨rfl, Below.refl _ _⟩

end Go.Proofs.Yteehoihkbcbbgaa

namespace Go.Proofs.Yteehoihkbcbbgaa.fnExactAdler32
open Go.ChangeShapes Go.WideShapes Go.ChangeAt Go.RowKit
open Go.ChangeMaps (open_string shut_string)
set_option linter.unusedVariables false

theorem own : ownKnob Try.prog.godebug = none := by kernel_rfl
theorem laidOut : laidOutB Try.prog = true := by kernel_rfl

/-- WHAT THE WALK IS TOLD OF A SLICE OF INTEGERS THAT CAME IN: it is nil; or it leads to a row of 'cap' cells, the numbers 'zs' (the first 'len' are its elements, the rest its spare room), each fitting its kind. -/
def IsRow (k : IntKind) (w : World) (a : Option Addr) (len cap : Nat) (zs : List Int) : Prop :=
  (a = none ∧ len = 0 ∧ cap = 0 ∧ zs = []) ∨
  ∃ x, a = some x ∧ len ≤ cap ∧ cap ≤ maxLen ∧ zs.length = cap ∧ (∀ i, i < zs.length → w.cell? (x.add i) = some (.int k (zs.getD i 0))) ∧ ∀ n ∈ zs, (Lit.int k n).wf = true

theorem row_of {k : IntKind} {w : World} {a : Option Addr} {len cap : Nat} {z : List Int} (h : IsRow k w a len cap z) : Row k w a (z.take len) ∧ (z.take len).length = len := by
  rcases h with ⟨_, h, _, h2⟩ | ⟨x, rfl, hl, hm, hz, hcell, hwz⟩
  · subst h; exact ⟨Or.inl rfl, rfl⟩
  · by_cases h0 : len = 0
    · subst h0; exact ⟨Or.inl rfl, rfl⟩
    · obtain ⟨b, off, spot⟩ := x
      have hc := hcell 0 (by omega)
      have hspot : spot = none := by simpa [Addr.add] using World.cell?_spot hc
      subst hspot
      refine ⟨Or.inr ⟨b, off, rfl, World.block_lt_of_cell? w _ hc, fun i hi => ?_⟩, by simp; omega⟩
      have hi' : i < len := by simp at hi; omega
      have hci := hcell i (by omega)
      have e1 : (z.take len).getD i 0 = z.getD i 0 := by simp [hi']
      rw [e1, ← hci]
      congr 1
      by_cases h00 : i = 0
      · subst h00; simp [Addr.add]
      · simp [Addr.add, h00]
theorem row_u8 {w : World} {a : Option Addr} {len cap : Nat} {z : List Int} (h : IsRow .u8 w a len cap z) : ∀ x ∈ z.take len, 0 ≤ x ∧ x ≤ 255 := by
  intro x hx
  rcases h with ⟨_, _, _, rfl⟩ | ⟨y, _, hl, hm, _, _, hwz⟩
  · simp at hx
  · have := hwz x (List.mem_of_mem_take hx)
    simp [Lit.wf, IntKind.min, IntKind.max, IntKind.signed, IntKind.bits] at this; omega
theorem row_max {k : IntKind} {w : World} {a : Option Addr} {len cap : Nat} {z : List Int} (h : IsRow k w a len cap z) : len ≤ 9223372036854775807 := by
  rcases h with ⟨_, h, _, _⟩ | ⟨x, _, hl, hm, _, _, _⟩
  · omega
  · unfold maxLen at hm; omega

/-! ### STEP 1: THE WALK: the Go text returns true, AND WRITES NOTHING THAT WAS THERE: 'Below w.heap.size w w'' (Derived/Below.lean: '.refl', '.alloc', '.drew', '.setCell' at a new block, '.trans'). Open each 'IsRow' by 'rcases' AHEAD of 'go_enter'; part every test ahead of the walk. -/
theorem walk (a0 : Option Addr) (len0 cap0 : Nat) (z0 : List Int) (w : World) (w0 : IsRow .u8 w a0 len0 cap0 z0) :
    Calls Try.prog 3 #[.slice a0 len0 cap0] w fun e w' => e = .returned (.bool true) ∧ Below w.heap.size w w' := by
  obtain ⟨hrow0, hlen0⟩ := row_of w0
  have h80 := row_u8 w0
  have hm0 := row_max w0
  clear w0
  generalize z0.take len0 = zs0 at *
  subst hlen0
  by_cases hbig0 : 1048576 < (zs0.length : Int)
  · clear h80 hrow0
    go_enter Try.func3, Try.ntmps3
    go_wp2
    go_ret
    exact ⟨rfl, Below.refl _ _⟩
  exact allAdler32 w a0 cap0 zs0 hrow0 (by omega) h80

/-! ### THE ROW's STEP: WRITTEN OUT: LEAVE IT -/
set_option maxRecDepth 100000 in
theorem lifted (os : Os) (started : os.Started) (H : Type) (enc : TypeId × Value → H) :
    ReturnsInHanded {} Try.checked os 3 .any (Rows.fnExactAdler32Spec.pre6 enc Try.prog Try.f3 Rows.fnExactAdler32Row.domain false) (Rows.fnExactAdler32Spec.post enc Try.prog Try.f3 false true false false) := by
  refine returnsInHanded_of_change (C := Try.checked) own started (by kernel_rfl) Try.func3
    (ChangeSpec.witness6 (enc := enc) (C := Try.checked) false ⟨#[], #[.slice none 0 0], []⟩ 8 (by kernel_rfl) (by kernel_rfl) (by kernel_rfl) (by kernel_rfl)) ?_
  intro W base args ds gs before hval0 hW hcnd _
  have hval : ∀ (j : Nat) t v, Try.f3.params[j]? = some t → args[j]? = some v → Value.okWide Try.prog W .any base t v := hval0
  have hW' := hW
  obtain ⟨p, q, hA0, hV, rfl, hfz, hnd⟩ := hW
  have hA : DataW.TrodAll enc Try.prog W 0 (fun _ => true) true Try.f3.params.toList args.toList ds p := hA0
  rw [Try.params3] at hA hval
  obtain ⟨v0, vs0, d0, ds0, p0, q0, hargs, rfl, rfl, h0, r0⟩ := trodAll_cons hA
  obtain ⟨rfl, rfl, rfl⟩ := trodAll_nil r0
  obtain rfl : args = #[v0] := by cases args; simp_all
  obtain ⟨rfl, rfl⟩ := trodVars_none hV
  obtain ⟨a0, len0, cap0, rfl⟩ := okWide_slice Try.underlying22 (hval 0 22 v0 rfl rfl)
  have k0 := h0
  have lt0 : ∀ x ∈ p0, x.block < W.heap.size := by obtain ⟨m, hm⟩ := k0; exact DataW.trod_lt m _ _ _ hm
  obtain ⟨z0, w0⟩ : ∃ zs, IsRow .u8 W a0 len0 cap0 zs := by
    obtain ⟨fuel, hf⟩ := h0
    rcases open_ints Try.underlying22 Try.underlying5 (by kernel_rfl) hf with ⟨hcs, _⟩ | ⟨x, l, c, zs, hcs, _, hl, hm, hz, _, hcell, hwz⟩
    · simp [Value.cells] at hcs
      obtain ⟨rfl, rfl, rfl⟩ := hcs
      exact ⟨[], .inl ⟨rfl, rfl, rfl, rfl⟩⟩
    · simp [Value.cells] at hcs
      obtain ⟨rfl, rfl, rfl⟩ := hcs
      exact ⟨zs, .inr ⟨_, rfl, hl, hm, by simpa using hz, hcell, hwz⟩⟩
  clear hA0 hval0
  refine (walk a0 len0 cap0 z0 W w0).mono fun e W' ⟨he, bel⟩ => ?_
  subst he
  exact ⟨_, rfl, _, _, _, [], _, [], hW', trodAll_mk1 (shut_bool Try.underlying4 _), (trodAll_cons_mk (Below.trod laidOut (by kernel_rfl) (of_decide_eq_true (by kernel_rfl)) k0 bel lt0) trodAll_mk0), rfl, bel.frame _, fun h => by cases h⟩

theorem over : Rows.fnExactAdler32Row.holds Try.pinned (OpenSpec.ofChange Rows.fnExactAdler32Spec) :=
  OpenClaim.holds_of_wide 3 Try.f3 rfl rfl rfl rfl rfl rfl rfl ⟨rfl, rfl, rfl, rfl, rfl⟩ rfl rfl rfl rfl rfl (by kernel_rfl) Try.func3 (by kernel_rfl)
    (of_decide_eq_true (by kernel_rfl)) (by unfold Func.isWrapper; first | (rw [if_pos (by decide +kernel)]; kernel_rfl) | (rw [if_neg (by decide +kernel)]; exact ⟨rfl, rfl⟩))
    (fun os started H enc _ => lifted os started H enc)

/-- ████ THE STATEMENT ████ -/
theorem proved : Rows.FnExactAdler32Said := over
#print axioms proved
end Go.Proofs.Yteehoihkbcbbgaa.fnExactAdler32
