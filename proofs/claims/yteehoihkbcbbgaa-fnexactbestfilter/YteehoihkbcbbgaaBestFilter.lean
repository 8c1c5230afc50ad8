/-
  The law on BestFilter returns true at every argument, and its arguments read afterwards as they read before; there is no further condition.
-/
import Derived.Test.YteehoihkbcbbgaaFrame
import Derived.Test.YteehoihkbcbbgaaBestL
import Derived.ShutString
import Derived.ChangeOld
namespace Go.Proofs.Yteehoihkbcbbgaa
open Go.ChangeShapes Go.WideShapes Go.ChangeAt Go.RowKit
set_option linter.unusedVariables false

set_option maxHeartbeats 8000000 in
theorem walkBestFilter (w : World) (ar : Option Addr) (capr : Nat) (zr : List Int) (hrr : Row .u8 w ar zr) (hlr : zr.length ≤ 1048576) (aa : Option Addr) (capa : Nat) (za : List Int) (hra : Row .u8 w aa za) (hla : za.length ≤ 1048576) (r0 : Int) (r1 : Bool)
    (hS : ∀ W br cr ba ca, At W br zr → At W ba za → Calls Try.prog 20 #[.slice (some ⟨br, 0, none⟩) zr.length cr, .slice (some ⟨ba, 0, none⟩) za.length ca] W fun e w' => e = .returned (.tuple #[.int .i64 r0, .bool r1]) ∧ Nw W w')
    (hI : ∀ W br cr ba ca, At W br zr → At W ba za → Calls Try.prog 21 #[.slice (some ⟨br, 0, none⟩) zr.length cr, .slice (some ⟨ba, 0, none⟩) za.length ca] W fun e w' => e = .returned (.tuple #[.int .i64 r0, .bool r1]) ∧ Nw W w') :
    Calls Try.prog 7 #[.slice ar zr.length capr, .slice aa za.length capa] w fun e w' => e = .returned (.bool true) ∧ Below w.heap.size w w' := by
  have hbdr : decide ((1048576 : Int) < (zr.length : Int)) = false := by simp; omega
  have hbda : decide ((1048576 : Int) < (za.length : Int)) = false := by simp; omega
  have HRr : Hid (Row .u8 w ar zr) := hrr
  have HRa : Hid (Row .u8 w aa za) := hra
  have HS : Hid _ := hS
  have HI : Hid _ := hI
  clear hrr hra hS hI
  have hq0 : (r0 != r0) = false := by simp
  have hq1 : (r1 != r1) = false := by simp
  go_enter Try.func7, Try.ntmps7
  go_wp2_with fail
  refine Calls.mono (toByte_at w ar capr zr HRr.out hlr) ?_
  rintro e w1 ⟨rfl, k1, t1⟩
  have x1 : w.heap.size < w1.heap.size := t1.1
  have Opr_1 : Hid (At w1 w.heap.size zr) := t1
  clear t1
  have S1 : Hid (Below w.heap.size w w1) := Below.trans (Below.refl w.heap.size w) (Below.mono k1 (Below.size (Below.refl w.heap.size w)))
  have y1 : w.heap.size ≤ w1.heap.size := Below.size k1
  clear k1 
  go_wp2_with fail
  refine Calls.mono (toByte_at w1 aa capa za (Row.below HRa.out S1.out) hla) ?_
  rintro e w2 ⟨rfl, k1, t1⟩
  have x2 : w1.heap.size < w2.heap.size := t1.1
  have Opa_2 : Hid (At w2 w1.heap.size za) := t1
  clear t1
  have S2 : Hid (Below w.heap.size w w2) := Below.trans S1.out (Below.mono k1 (Below.size S1.out))
  have y2 : w1.heap.size ≤ w2.heap.size := Below.size k1
  have Opr_2 : Hid (At w2 w.heap.size zr) := At.nw Opr_1.out k1
  clear k1 Opr_1 S1
  go_wp2_with fail
  refine Calls.mono (HS.out w2 _ _ _ _ Opr_2.out Opa_2.out) ?_
  rintro e w3 ⟨rfl, k1⟩
  have S3 : Hid (Below w.heap.size w w3) := Below.trans S2.out (Below.mono k1 (Below.size S2.out))
  have y3 : w2.heap.size ≤ w3.heap.size := Below.size k1
  have Opr_3 : Hid (At w3 w.heap.size zr) := At.nw Opr_2.out k1
  have Opa_3 : Hid (At w3 w1.heap.size za) := At.nw Opa_2.out k1
  clear k1 Opr_2 Opa_2 S2
  clear Opr_3 Opa_3
  go_wp2_with fail
  refine Calls.mono (toByte_at w3 ar capr zr (Row.below HRr.out S3.out) hlr) ?_
  rintro e w4 ⟨rfl, k1, t1⟩
  have x4 : w3.heap.size < w4.heap.size := t1.1
  have Oxr_4 : Hid (At w4 w3.heap.size zr) := t1
  clear t1
  have S4 : Hid (Below w.heap.size w w4) := Below.trans S3.out (Below.mono k1 (Below.size S3.out))
  have y4 : w3.heap.size ≤ w4.heap.size := Below.size k1
  clear k1  S3
  go_wp2_with fail
  refine Calls.mono (toByte_at w4 aa capa za (Row.below HRa.out S4.out) hla) ?_
  rintro e w5 ⟨rfl, k1, t1⟩
  have x5 : w4.heap.size < w5.heap.size := t1.1
  have Oxa_5 : Hid (At w5 w4.heap.size za) := t1
  clear t1
  have S5 : Hid (Below w.heap.size w w5) := Below.trans S4.out (Below.mono k1 (Below.size S4.out))
  have y5 : w4.heap.size ≤ w5.heap.size := Below.size k1
  have Oxr_5 : Hid (At w5 w3.heap.size zr) := At.nw Oxr_4.out k1
  clear k1 Oxr_4 S4
  go_wp2_with fail
  refine Calls.mono (HI.out w5 _ _ _ _ Oxr_5.out Oxa_5.out) ?_
  rintro e w6 ⟨rfl, k1⟩
  have S6 : Hid (Below w.heap.size w w6) := Below.trans S5.out (Below.mono k1 (Below.size S5.out))
  have y6 : w5.heap.size ≤ w6.heap.size := Below.size k1
  have Oxr_6 : Hid (At w6 w3.heap.size zr) := At.nw Oxr_5.out k1
  have Oxa_6 : Hid (At w6 w4.heap.size za) := At.nw Oxa_5.out k1
  clear k1 Oxr_5 Oxa_5 S5
  go_wp2_with fail
  refine Calls.mono (toByte_at w6 ar capr zr (Row.below HRr.out S6.out) hlr) ?_
  rintro e w7 ⟨rfl, k1, t1⟩
  have x7 : w6.heap.size < w7.heap.size := t1.1
  have Oyr_7 : Hid (At w7 w6.heap.size zr) := t1
  clear t1
  have S7 : Hid (Below w.heap.size w w7) := Below.trans S6.out (Below.mono k1 (Below.size S6.out))
  have y7 : w6.heap.size ≤ w7.heap.size := Below.size k1
  have Oxr_7 : Hid (At w7 w3.heap.size zr) := At.nw Oxr_6.out k1
  have Oxa_7 : Hid (At w7 w4.heap.size za) := At.nw Oxa_6.out k1
  clear k1 Oxr_6 Oxa_6 S6
  go_wp2_with fail
  refine Calls.mono (eqByte_at w7 _ _ _ _ _ zr rfl hlr Oxr_7.out Oyr_7.out) ?_
  rintro e w8 ⟨rfl, k1⟩
  have S8 : Hid (Below w.heap.size w w8) := Below.trans S7.out (Below.mono k1 (Below.size S7.out))
  have y8 : w7.heap.size ≤ w8.heap.size := Below.size k1
  have Oxr_8 : Hid (At w8 w3.heap.size zr) := At.nw Oxr_7.out k1
  have Oxa_8 : Hid (At w8 w4.heap.size za) := At.nw Oxa_7.out k1
  have Oyr_8 : Hid (At w8 w6.heap.size zr) := At.nw Oyr_7.out k1
  clear k1 Oxr_7 Oxa_7 Oyr_7 S7
  clear Oyr_8
  go_wp2_with fail
  refine Calls.mono (toByte_at w8 aa capa za (Row.below HRa.out S8.out) hla) ?_
  rintro e w9 ⟨rfl, k1, t1⟩
  have x9 : w8.heap.size < w9.heap.size := t1.1
  have Oya_9 : Hid (At w9 w8.heap.size za) := t1
  clear t1
  have S9 : Hid (Below w.heap.size w w9) := Below.trans S8.out (Below.mono k1 (Below.size S8.out))
  have y9 : w8.heap.size ≤ w9.heap.size := Below.size k1
  have Oxr_9 : Hid (At w9 w3.heap.size zr) := At.nw Oxr_8.out k1
  have Oxa_9 : Hid (At w9 w4.heap.size za) := At.nw Oxa_8.out k1
  clear k1 Oxr_8 Oxa_8 S8
  go_wp2_with fail
  refine Calls.mono (eqByte_at w9 _ _ _ _ _ za rfl hla Oxa_9.out Oya_9.out) ?_
  rintro e w10 ⟨rfl, k1⟩
  have S10 : Hid (Below w.heap.size w w10) := Below.trans S9.out (Below.mono k1 (Below.size S9.out))
  have y10 : w9.heap.size ≤ w10.heap.size := Below.size k1
  have Oxr_10 : Hid (At w10 w3.heap.size zr) := At.nw Oxr_9.out k1
  have Oxa_10 : Hid (At w10 w4.heap.size za) := At.nw Oxa_9.out k1
  have Oya_10 : Hid (At w10 w8.heap.size za) := At.nw Oya_9.out k1
  clear k1 Oxr_9 Oxa_9 Oya_9 S9
  clear Oya_10
  go_wp2
  go_ret
  exact ⟨rfl, S10.out⟩

theorem allBestFilter (w : World) (ar : Option Addr) (cr : Nat) (zr : List Int) (hr : Row .u8 w ar zr) (hlr : zr.length ≤ 1048576) (h8r : ∀ z ∈ zr, 0 ≤ z ∧ z ≤ 255) (aa : Option Addr) (ca : Nat) (za : List Int) (ha : Row .u8 w aa za) (hla : za.length ≤ 1048576) (h8a : ∀ z ∈ za, 0 ≤ z ∧ z ≤ 255) :
    Calls Try.prog 7 #[.slice ar zr.length cr, .slice aa za.length ca] w fun e w' => e = .returned (.bool true) ∧ Below w.heap.size w w' := by
  by_cases hok : RowOk zr.length za.length
  · have e : za.length = zr.length := hok.2.2.2
    have hok2 : RowOk zr.length zr.length := ⟨hok.1, hok.2.1, hok.2.2.1, rfl⟩
    refine walkBestFilter w ar cr zr hr hlr aa ca za ha hla (best zr za : Int) true ?_ ?_
    · intro W b1 c1 b2 c2 h1 h2
      rw [e]
      exact sbestF W b1 0 c1 b2 0 c2 zr.length zr za hok2 rfl e ⟨h1.1, h1.2.1⟩ ⟨h2.1, h2.2.1⟩ h8r h8a
    · intro W b1 c1 b2 c2 h1 h2
      rw [e]
      exact ibestF W b1 0 c1 b2 0 c2 zr.length zr za hok2 rfl e ⟨h1.1, h1.2.1⟩ ⟨h2.1, h2.2.1⟩ h8r h8a
  · refine walkBestFilter w ar cr zr hr hlr aa ca za ha hla 0 false ?_ ?_
    · intro W b1 c1 b2 c2 h1 h2
      refine (sbestF_no W _ _ _ _ c1 c2 hlr hla hok).mono ?_
      rintro e w' ⟨he, rfl⟩
      exact ⟨he, Below.refl _ _⟩
    · intro W b1 c1 b2 c2 h1 h2
      refine (ibestF_no W _ _ _ _ c1 c2 hlr hla hok).mono ?_
      rintro e w' ⟨he, rfl⟩
      exact ⟨he, Below.refl _ _⟩

end Go.Proofs.Yteehoihkbcbbgaa

namespace Go.Proofs.Yteehoihkbcbbgaa.fnExactBestFilter
open Go.ChangeShapes Go.WideShapes Go.ChangeAt Go.RowKit
open Go.ChangeMaps (open_string shut_string)
set_option linter.unusedVariables false

theorem own : ownKnob Try.prog.godebug = none := by kernel_rfl
theorem laidOut : laidOutB Try.prog = true := by kernel_rfl

/-- WHAT THE WALK IS TOLD OF A SLICE OF INTEGERS THAT CAME IN: it is nil; or it leads to a row of 'cap' cells, the numbers 'zs' (the first 'len' are its elements, the rest its spare room), each fitting its kind. -/
def IsRow (k : IntKind) (w : World) (a : Option Addr) (len cap : Nat) (zs : List Int) : Prop :=
  (a = none ∧ len = 0 ∧ cap = 0 ∧ zs = []) ∨
  ∃ x, a = some x ∧ len ≤ cap ∧ cap ≤ maxLen ∧ zs.length = cap ∧ (∀ i, i < zs.length → w.cell? (x.add i) = some (.int k (zs.getD i 0))) ∧ ∀ n ∈ zs, (Lit.int k n).wf = true

theorem row_of {k : IntKind} {w : World} {a : Option Addr} {len cap : Nat} {z : List Int} (h : IsRow k w a len cap z) : Row k w a (z.take len) ∧ (z.take len).length = len := by
  rcases h with ⟨_, h, _, h2⟩ | ⟨x, rfl, hl, hm, hz, hcell, hwz⟩
  · subst h; exact ⟨Or.inl rfl, rfl⟩
  · by_cases h0 : len = 0
    · subst h0; exact ⟨Or.inl rfl, rfl⟩
    · obtain ⟨b, off, spot⟩ := x
      have hc := hcell 0 (by omega)
      have hspot : spot = none := by simpa [Addr.add] using World.cell?_spot hc
      subst hspot
      refine ⟨Or.inr ⟨b, off, rfl, World.block_lt_of_cell? w _ hc, fun i hi => ?_⟩, by simp; omega⟩
      have hi' : i < len := by simp at hi; omega
      have hci := hcell i (by omega)
      have e1 : (z.take len).getD i 0 = z.getD i 0 := by simp [hi']
      rw [e1, ← hci]
      congr 1
      by_cases h00 : i = 0
      · subst h00; simp [Addr.add]
      · simp [Addr.add, h00]
theorem row_u8 {w : World} {a : Option Addr} {len cap : Nat} {z : List Int} (h : IsRow .u8 w a len cap z) : ∀ x ∈ z.take len, 0 ≤ x ∧ x ≤ 255 := by
  intro x hx
  rcases h with ⟨_, _, _, rfl⟩ | ⟨y, _, hl, hm, _, _, hwz⟩
  · simp at hx
  · have := hwz x (List.mem_of_mem_take hx)
    simp [Lit.wf, IntKind.min, IntKind.max, IntKind.signed, IntKind.bits] at this; omega
theorem row_max {k : IntKind} {w : World} {a : Option Addr} {len cap : Nat} {z : List Int} (h : IsRow k w a len cap z) : len ≤ 9223372036854775807 := by
  rcases h with ⟨_, h, _, _⟩ | ⟨x, _, hl, hm, _, _, _⟩
  · omega
  · unfold maxLen at hm; omega

/-! ### STEP 1: THE WALK: the Go text returns true, AND WRITES NOTHING THAT WAS THERE: 'Below w.heap.size w w'' (Derived/Below.lean: '.refl', '.alloc', '.drew', '.setCell' at a new block, '.trans'). Open each 'IsRow' by 'rcases' AHEAD of 'go_enter'; part every test ahead of the walk. -/
theorem walk (a0 : Option Addr) (len0 cap0 : Nat) (z0 : List Int) (a1 : Option Addr) (len1 cap1 : Nat) (z1 : List Int) (w : World) (w0 : IsRow .u8 w a0 len0 cap0 z0) (w1 : IsRow .u8 w a1 len1 cap1 z1) :
    Calls Try.prog 7 #[.slice a0 len0 cap0, .slice a1 len1 cap1] w fun e w' => e = .returned (.bool true) ∧ Below w.heap.size w w' := by
  obtain ⟨hrow0, hlen0⟩ := row_of w0
  have h80 := row_u8 w0
  have hm0 := row_max w0
  clear w0
  generalize z0.take len0 = zs0 at *
  subst hlen0
  obtain ⟨hrow1, hlen1⟩ := row_of w1
  have h81 := row_u8 w1
  have hm1 := row_max w1
  clear w1
  generalize z1.take len1 = zs1 at *
  subst hlen1
  by_cases hbig0 : 1048576 < (zs0.length : Int)
  · clear h80 hrow0 h81 hrow1
    go_enter Try.func7, Try.ntmps7
    go_wp2
    go_ret
    exact ⟨rfl, Below.refl _ _⟩
  by_cases hbig1 : 1048576 < (zs1.length : Int)
  · clear h80 hrow0 h81 hrow1
    go_enter Try.func7, Try.ntmps7
    go_wp2
    go_ret
    exact ⟨rfl, Below.refl _ _⟩
  exact allBestFilter w a0 cap0 zs0 hrow0 (by omega) h80 a1 cap1 zs1 hrow1 (by omega) h81

/-! ### THE ROW's STEP: WRITTEN OUT: LEAVE IT -/
set_option maxRecDepth 100000 in
theorem lifted (os : Os) (started : os.Started) (H : Type) (enc : TypeId × Value → H) :
    ReturnsInHanded {} Try.checked os 7 .any (Rows.fnExactBestFilterSpec.pre6 enc Try.prog Try.f7 Rows.fnExactBestFilterRow.domain false) (Rows.fnExactBestFilterSpec.post enc Try.prog Try.f7 false true false false) := by
  refine returnsInHanded_of_change (C := Try.checked) own started (by kernel_rfl) Try.func7
    (ChangeSpec.witness6 (enc := enc) (C := Try.checked) false ⟨#[], #[.slice none 0 0, .slice none 0 0], []⟩ 8 (by kernel_rfl) (by kernel_rfl) (by kernel_rfl) (by kernel_rfl)) ?_
  intro W base args ds gs before hval0 hW hcnd _
  have hval : ∀ (j : Nat) t v, Try.f7.params[j]? = some t → args[j]? = some v → Value.okWide Try.prog W .any base t v := hval0
  have hW' := hW
  obtain ⟨p, q, hA0, hV, rfl, hfz, hnd⟩ := hW
  have hA : DataW.TrodAll enc Try.prog W 0 (fun _ => true) true Try.f7.params.toList args.toList ds p := hA0
  rw [Try.params7] at hA hval
  obtain ⟨v0, vs0, d0, ds0, p0, q0, hargs, rfl, rfl, h0, r0⟩ := trodAll_cons hA
  obtain ⟨v1, vs1, d1, ds1, p1, q1, rfl, rfl, rfl, h1, r1⟩ := trodAll_cons r0
  obtain ⟨rfl, rfl, rfl⟩ := trodAll_nil r1
  obtain rfl : args = #[v0, v1] := by cases args; simp_all
  obtain ⟨rfl, rfl⟩ := trodVars_none hV
  obtain ⟨a0, len0, cap0, rfl⟩ := okWide_slice Try.underlying22 (hval 0 22 v0 rfl rfl)
  have k0 := h0
  have lt0 : ∀ x ∈ p0, x.block < W.heap.size := by obtain ⟨m, hm⟩ := k0; exact DataW.trod_lt m _ _ _ hm
  obtain ⟨z0, w0⟩ : ∃ zs, IsRow .u8 W a0 len0 cap0 zs := by
    obtain ⟨fuel, hf⟩ := h0
    rcases open_ints Try.underlying22 Try.underlying5 (by kernel_rfl) hf with ⟨hcs, _⟩ | ⟨x, l, c, zs, hcs, _, hl, hm, hz, _, hcell, hwz⟩
    · simp [Value.cells] at hcs
      obtain ⟨rfl, rfl, rfl⟩ := hcs
      exact ⟨[], .inl ⟨rfl, rfl, rfl, rfl⟩⟩
    · simp [Value.cells] at hcs
      obtain ⟨rfl, rfl, rfl⟩ := hcs
      exact ⟨zs, .inr ⟨_, rfl, hl, hm, by simpa using hz, hcell, hwz⟩⟩
  obtain ⟨a1, len1, cap1, rfl⟩ := okWide_slice Try.underlying22 (hval 1 22 v1 rfl rfl)
  have k1 := h1
  have lt1 : ∀ x ∈ p1, x.block < W.heap.size := by obtain ⟨m, hm⟩ := k1; exact DataW.trod_lt m _ _ _ hm
  obtain ⟨z1, w1⟩ : ∃ zs, IsRow .u8 W a1 len1 cap1 zs := by
    obtain ⟨fuel, hf⟩ := h1
    rcases open_ints Try.underlying22 Try.underlying5 (by kernel_rfl) hf with ⟨hcs, _⟩ | ⟨x, l, c, zs, hcs, _, hl, hm, hz, _, hcell, hwz⟩
    · simp [Value.cells] at hcs
      obtain ⟨rfl, rfl, rfl⟩ := hcs
      exact ⟨[], .inl ⟨rfl, rfl, rfl, rfl⟩⟩
    · simp [Value.cells] at hcs
      obtain ⟨rfl, rfl, rfl⟩ := hcs
      exact ⟨zs, .inr ⟨_, rfl, hl, hm, by simpa using hz, hcell, hwz⟩⟩
  clear hA0 hval0
  refine (walk a0 len0 cap0 z0 a1 len1 cap1 z1 W w0 w1).mono fun e W' ⟨he, bel⟩ => ?_
  subst he
  exact ⟨_, rfl, _, _, _, [], _, [], hW', trodAll_mk1 (shut_bool Try.underlying4 _), (trodAll_cons_mk (Below.trod laidOut (by kernel_rfl) (of_decide_eq_true (by kernel_rfl)) k0 bel lt0) (trodAll_cons_mk (Below.trod laidOut (by kernel_rfl) (of_decide_eq_true (by kernel_rfl)) k1 bel lt1) trodAll_mk0)), rfl, bel.frame _, fun h => by cases h⟩

theorem over : Rows.fnExactBestFilterRow.holds Try.pinned (OpenSpec.ofChange Rows.fnExactBestFilterSpec) :=
  OpenClaim.holds_of_wide 7 Try.f7 rfl rfl rfl rfl rfl rfl rfl ⟨rfl, rfl, rfl, rfl, rfl⟩ rfl rfl rfl rfl rfl (by kernel_rfl) Try.func7 (by kernel_rfl)
    (of_decide_eq_true (by kernel_rfl)) (by unfold Func.isWrapper; first | (rw [if_pos (by decide +kernel)]; kernel_rfl) | (rw [if_neg (by decide +kernel)]; exact ⟨rfl, rfl⟩))
    (fun os started H enc _ => lifted os started H enc)

/-- ████ THE STATEMENT ████ -/
theorem proved : Rows.FnExactBestFilterSaid := over
#print axioms proved
end Go.Proofs.Yteehoihkbcbbgaa.fnExactBestFilter
