/-
  The law FnCodes returns true at every list of bytes, and its argument reads afterwards as it read before; there is no further condition.
-/
import Derived.Test.YtakdmgnkcpahbaaPrefix
import Derived.ShutString
import Derived.ChangeOld
namespace Go.Proofs.Ytakdmgnkcpahbaa
open Go.ChangeShapes Go.WideShapes Go.ChangeAt Go.RowKit
set_option linter.unusedVariables false

theorem codes_scodes (W : World) (b c : Nat) (zs : List Int) (hl : zs.length ≤ 1048576) (h : At W b zs) (hf : fit zs = true) (hfu : full zs = true) :
    Calls Try.prog 9 #[.slice (some ⟨b, 0, none⟩) zs.length c] W fun e w' => e = .returned (.tuple #[.slice (some ⟨W.heap.size, 0, none⟩) zs.length zs.length, .bool true]) ∧ Kp W w' ∧ At w' W.heap.size (codesL zs) :=
  (scodesOf_yes W b 0 c zs hl h.1 h.2.1 hf hfu).mono fun e w' h => ⟨h.1, by rw [h.2]; exact (Kp.refl W).alloc _ _, by rw [h.2]; exact At.alloc W _ 3⟩
def Mad (W w' : World) (B : Nat) (cs : List Int) : Prop := Kp W w' ∧ W.heap.size ≤ B ∧ At w' B cs
theorem codes_icodes (W : World) (b c : Nat) (zs : List Int) (hl : zs.length ≤ 1048576) (h : At W b zs) (hf : fit zs = true) (hfu : full zs = true) :
    Calls Try.prog 8 #[.slice (some ⟨b, 0, none⟩) zs.length c] W fun e w' => ∃ B, e = .returned (.tuple #[.slice (some ⟨B, 0, none⟩) zs.length zs.length, .bool true]) ∧ Mad W w' B (codesL zs) :=
  (icodesOf_yes W b 0 c zs hl h.1 h.2.1 hf hfu).mono fun e w' ⟨B, he, h⟩ => ⟨B, he, h.1, h.2.1, At.new h⟩
theorem At.drawn {W w' : World} {g c : Nat} {zs : List Int} (h : Drawn W w' g c zs) : At w' g zs := by
  obtain ⟨h1, h2, h3, _⟩ := h
  refine ⟨(h3.lt g rfl).2, fun i hi => ?_, fun o => h3.frozenAt o⟩
  rw [Nat.zero_add, h3.cellAt i (by omega)]
  simp [ic, hi]
theorem codesL_get (xs : List Int) (k : Nat) (h : k < xs.length) : (codesL xs).getD k 0 = cd xs k := by simp [codesL, h]


set_option maxRecDepth 100000 in
set_option maxHeartbeats 8000000 in
theorem law_all (w : World) (a0 : Option Addr) (len0 cap0 : Nat) (hlm : len0 ≤ 1048576) (hcode : Code w w.heap.size a0 len0) :
    Calls Try.prog 3 #[.slice a0 len0 cap0] w fun e w' => e = .returned (.bool true) ∧ Below w.heap.size w w' := by
  have hbd : decide ((1048576 : Int) < (len0 : Int)) = false := by simp; omega
  have HD : Hid (Code w w.heap.size a0 len0) := hcode
  clear hcode
  go_enter Try.func3, Try.ntmps3
  go_wp2_with fail
  refine Calls.mono (drawCodes_any w a0 len0 cap0 (by omega) HD.out) ?_
  rintro e w1 ⟨zs, g, c, rfl, hdr⟩
  have S1 : Hid (Below w.heap.size w w1) := hdr.1
  have T1 : Hid (At w1 g zs) := At.drawn hdr
  have hlz : zs.length ≤ 1000 := hdr.2.2.2
  clear hdr HD
  by_cases hok : fit zs = true ∧ full zs = true
  · have HF : Hid (fit zs = true) := hok.1
    have HU : Hid (full zs = true) := hok.2
    clear hok
    go_wp2_with fail
    refine Calls.mono (codes_icodes w1 _ _ zs (by omega) T1.out HF.out HU.out) ?_
    rintro e w2 ⟨B, rfl, k1, z1, t1⟩
    have S2 : Hid (Below w.heap.size w w2) := S1.out.trans (k1.1.mono (Below.size S1.out))
    have T2 : Hid (At w2 g zs) := T1.out.kp k1
    have G2 : Hid (At w2 B (codesL zs)) := t1
    clear k1 t1 S1 T1 z1
    go_wp2_with fail
    refine Calls.mono (codes_scodes w2 _ _ zs (by omega) T2.out HF.out HU.out) ?_
    rintro e w3 ⟨rfl, k1, t1⟩
    have S3 : Hid (Below w.heap.size w w3) := S2.out.trans (k1.1.mono (Below.size S2.out))
    have T3 : Hid (At w3 g zs) := T2.out.kp k1
    have G3 : Hid (At w3 B (codesL zs)) := G2.out.kp k1
    have C3 : Hid (At w3 w2.heap.size (codesL zs)) := t1
    clear k1 t1 S2 T2 G2
    go_wp2_with fail
    refine Calls.mono (same_at w3 _ _ _ _ _ (codesL zs) (codesL_len zs) (by omega) G3.out C3.out) ?_
    rintro e w4 ⟨rfl, k1⟩
    have S4 : Hid (Below w.heap.size w w4) := S3.out.trans (k1.1.mono (Below.size S3.out))
    have T4 : Hid (At w4 g zs) := T3.out.kp k1
    have G4 : Hid (At w4 B (codesL zs)) := G3.out.kp k1
    clear k1 S3 T3 G3 C3
    go_wp2
    go_loopw [43] (fun i wr => ∃ j q : Nat, j ≤ zs.length ∧ i = .int .i64 (j : Int) ∧ wr = w4.drewN q) (fun i _ => zs.length - (intOf i).toNat)
    case atStart => exact ⟨0, 0, Nat.zero_le _, rfl, rfl⟩
    case round =>
      obtain ⟨i, q, hi, rfl, rfl⟩ := hrel
      by_cases hlt : i < zs.length
      · have ci := T4.out.2.1 i hlt
        have gi := G4.out.2.1 i (by rw [codesL_len]; exact hlt)
        rw [codesL_get zs i hlt, Nat.zero_add] at gi
        rw [Nat.zero_add] at ci
        have bx := fit_at HF.out i
        obtain ⟨X, hX⟩ := Int.eq_ofNat_of_zero_le bx.1
        rw [hX] at ci bx
        have HX : Hid (zs.getD i 0 = (X : Int)) := hX
        have bci := cd_bd zs HF.out i hlt
        clear hX
        go_wp2
        go_loopw [50] (fun k wr => ∃ j q : Nat, j ≤ zs.length ∧ k = .int .i64 (j : Int) ∧ wr = w4.drewN q) (fun k _ => zs.length - (intOf k).toNat)
        case atStart => exact ⟨0, q, Nat.zero_le _, rfl, rfl⟩
        case round =>
          obtain ⟨k, q2, hk, rfl, rfl⟩ := hrel
          by_cases hlt2 : k < zs.length
          · have ck := T4.out.2.1 k hlt2
            have gk := G4.out.2.1 k (by rw [codesL_len]; exact hlt2)
            rw [codesL_get zs k hlt2, Nat.zero_add] at gk
            rw [Nat.zero_add] at ck
            have by' := fit_at HF.out k
            obtain ⟨Y, hY⟩ := Int.eq_ofNat_of_zero_le by'.1
            rw [hY] at ck by'
            have HY : Hid (zs.getD k 0 = (Y : Int)) := hY
            have bck := cd_bd zs HF.out k hlt2
            clear hY
            by_cases hik : i = k
            · have hki : k = i := hik.symm
              subst hki
              have n1 : ((k : Int) != (k : Int)) = false := by simp
              go_wp2
              go_quiet (fail)
              go_wp2
              go_roundw
              case rel => exact ⟨k + 1, _, by omega, by go_num, rfl⟩
              case measure => simp [intOf]; omega
            · have n1 : ((i : Int) != (k : Int)) = true := by simp; omega
              have n1' : (i != k) = true := by simp; omega
              by_cases hX0 : 0 < X
              · have n2 : decide ((0 : Int) < (X : Int)) = true := by simp; omega
                by_cases hXY : X ≤ Y
                · have n3 : decide ((X : Int) ≤ (Y : Int)) = true := by simp; omega
                  have n3' : decide (X ≤ Y) = true := by simp; omega
                  have pf := prefix_free zs i k X Y hlt hlt2 hik HX.out HY.out hX0 hXY
                  have hsub : (Y : Int) - (X : Int) = ((Y - X : Nat) : Int) := by omega
                  have hsb : Y - X ≤ 15 := by omega
                  generalize Y - X = D at *
                  generalize cd zs k = ck' at *
                  generalize cd zs i = ci' at *
                  have hq1 : (ck' / 2 ^ D == ci') = false := by rw [beq_eq_false_iff_ne]; exact pf
                  clear pf
                  go_wp2
                  go_quiet (fail)
                  go_wp2
                  go_roundw
                  case rel => exact ⟨k + 1, _, by omega, by go_num, rfl⟩
                  case measure => simp [intOf]; omega
                · have n3 : decide ((X : Int) ≤ (Y : Int)) = false := by simp; omega
                  have n3' : decide (X ≤ Y) = false := by simp; omega
                  go_wp2
                  go_quiet (fail)
                  go_wp2
                  go_roundw
                  case rel => exact ⟨k + 1, _, by omega, by go_num, rfl⟩
                  case measure => simp [intOf]; omega
              · have n2 : decide ((0 : Int) < (X : Int)) = false := by simp; omega
                have n2' : decide (0 < X) = false := by simp; omega
                go_wp2
                go_quiet (fail)
                go_wp2
                go_roundw
                case rel => exact ⟨k + 1, _, by omega, by go_num, rfl⟩
                case measure => simp [intOf]; omega
          · go_wp2
            go_roundw
            case rel => exact ⟨i + 1, _, by omega, by go_num, rfl⟩
            case measure => simp [intOf]; omega
      · go_wp2
        go_ret
        exact ⟨rfl, S4.out.trans ⟨rfl, rfl, rfl, Nat.le_refl _, fun _ _ => rfl⟩⟩
  · have HS : Hid (Calls Try.prog 8 #[.slice (some ⟨g, 0, none⟩) zs.length c] w1 fun e w' => e = .returned (.tuple #[.slice none 0 0, .bool false]) ∧ Kp w1 w') := by
      by_cases h1 : fit zs = true
      · have h2 : full zs = false := by
          rw [Bool.eq_false_iff]; exact fun h => hok ⟨h1, h⟩
        exact icodesOf_half w1 g 0 c zs (by omega) T1.out.1 T1.out.2.1 h1 h2
      · exact icodesOf_no w1 g 0 c zs (by omega) T1.out.2.1 (by simpa using h1)
    have HS2 : Hid (∀ W, At W g zs → Calls Try.prog 9 #[.slice (some ⟨g, 0, none⟩) zs.length c] W fun e w' => e = .returned (.tuple #[.slice none 0 0, .bool false]) ∧ Kp W w') := by
      intro W hW
      by_cases h1 : fit zs = true
      · have h2 : full zs = false := by
          rw [Bool.eq_false_iff]; exact fun h => hok ⟨h1, h⟩
        exact scodesOf_half W g 0 c zs (by omega) hW.1 hW.2.1 h1 h2
      · exact scodesOf_no W g 0 c zs (by omega) hW.1 hW.2.1 (by simpa using h1)
    clear hok
    go_wp2_with fail
    refine Calls.mono HS.out ?_
    rintro e w2 ⟨rfl, k1⟩
    have S2 : Hid (Below w.heap.size w w2) := S1.out.trans (k1.1.mono (Below.size S1.out))
    have T2 : Hid (At w2 g zs) := T1.out.kp k1
    clear k1 S1 T1 HS
    go_wp2_with fail
    refine Calls.mono (HS2.out w2 T2.out) ?_
    rintro e w3 ⟨rfl, k1⟩
    have S3 : Hid (Below w.heap.size w w3) := S2.out.trans (k1.1.mono (Below.size S2.out))
    clear k1 S2 T2
    go_wp2_with fail
    refine Calls.mono (same_nil w3) ?_
    rintro e w4 ⟨rfl, k1⟩
    have S4 : Hid (Below w.heap.size w w4) := S3.out.trans (k1.1.mono (Below.size S3.out))
    clear k1 S3
    go_wp2
    go_ret
    exact ⟨rfl, S4.out⟩
end Go.Proofs.Ytakdmgnkcpahbaa

namespace Go.Proofs.Ytakdmgnkcpahbaa.fnCodes
open Go.ChangeShapes Go.WideShapes Go.ChangeAt Go.RowKit
open Go.ChangeMaps (open_string shut_string)
set_option linter.unusedVariables false

theorem own : ownKnob Try.prog.godebug = none := by kernel_rfl
theorem laidOut : laidOutB Try.prog = true := by kernel_rfl

/-- WHAT THE WALK IS TOLD OF A SLICE OF INTEGERS THAT CAME IN: it is nil; or it leads to a row of 'cap' cells, the numbers 'zs' (the first 'len' are its elements, the rest its spare room), each fitting its kind. -/
def IsRow (k : IntKind) (w : World) (a : Option Addr) (len cap : Nat) (zs : List Int) : Prop :=
  (a = none ∧ len = 0 ∧ cap = 0 ∧ zs = []) ∨
  ∃ x, a = some x ∧ len ≤ cap ∧ cap ≤ maxLen ∧ zs.length = cap ∧ (∀ i, i < zs.length → w.cell? (x.add i) = some (.int k (zs.getD i 0))) ∧ ∀ n ∈ zs, (Lit.int k n).wf = true

theorem code_of (w : World) (a : Option Addr) (len cap : Nat) (z : List Int) (h : IsRow .u8 w a len cap z) : Code w w.heap.size a len := by
  rcases h with ⟨_, h, _, _⟩ | ⟨x, rfl, hl, hm, hz, hcell, hwz⟩
  · exact Or.inl h
  · by_cases h0 : len = 0
    · exact Or.inl h0
    · obtain ⟨b, off, spot⟩ := x
      have hc := hcell 0 (by omega)
      have hspot : spot = none := by simpa [Addr.add] using World.cell?_spot hc
      subst hspot
      refine Or.inr ⟨b, off, rfl, World.block_lt_of_cell? w _ hc, fun i hi => ?_⟩
      have hci := hcell i (by omega)
      have hlt : i < z.length := by omega
      have e0 : z.getD i 0 = z[i] := by simp [hlt]
      rw [e0] at hci
      have hw := hwz z[i] (List.getElem_mem _)
      have hbd := bounds_u8 hw
      refine ⟨z[i], hbd.1, hbd.2, ?_⟩
      rw [← hci]
      congr 1
      by_cases h00 : i = 0
      · subst h00; simp [Addr.add]
      · simp [Addr.add, h00]

/-! ### STEP 1: THE WALK: the Go text returns true, AND WRITES NOTHING THAT WAS THERE: 'Below w.heap.size w w'' (Derived/Below.lean: '.refl', '.alloc', '.drew', '.setCell' at a new block, '.trans'). Open each 'IsRow' by 'rcases' AHEAD of 'go_enter'; part every test ahead of the walk. -/
theorem walk (a0 : Option Addr) (len0 cap0 : Nat) (z0 : List Int) (w : World) (w0 : IsRow .u8 w a0 len0 cap0 z0) :
    Calls Try.prog 3 #[.slice a0 len0 cap0] w fun e w' => e = .returned (.bool true) ∧ Below w.heap.size w w' := by
  have HC0 := code_of w a0 len0 cap0 z0 w0
  have hlm : len0 ≤ maxLen := by
    rcases w0 with ⟨_, h, _, _⟩ | ⟨x, _, hl, hm, _, _, _⟩
    · omega
    · omega
  unfold maxLen at hlm
  clear w0
  by_cases hbig : 1048576 < (len0 : Int)
  · clear HC0
    go_enter Try.func3, Try.ntmps3
    go_wp2
    go_ret
    exact ⟨rfl, Below.refl _ _⟩
  · exact law_all w a0 len0 cap0 (by omega) HC0

/-! ### THE ROW's STEP: WRITTEN OUT: LEAVE IT -/
set_option maxRecDepth 100000 in
theorem lifted (os : Os) (started : os.Started) (H : Type) (enc : TypeId × Value → H) :
    ReturnsInHanded {} Try.checked os 3 .any (Rows.fnCodesSpec.pre6 enc Try.prog Try.f3 Rows.fnCodesRow.domain false) (Rows.fnCodesSpec.post enc Try.prog Try.f3 false true false false) := by
  refine returnsInHanded_of_change (C := Try.checked) own started (by kernel_rfl) Try.func3
    (ChangeSpec.witness6 (enc := enc) (C := Try.checked) false ⟨#[], #[.slice none 0 0], []⟩ 8 (by kernel_rfl) (by kernel_rfl) (by kernel_rfl) (by kernel_rfl)) ?_
  intro W base args ds gs before hval0 hW hcnd _
  have hval : ∀ (j : Nat) t v, Try.f3.params[j]? = some t → args[j]? = some v → Value.okWide Try.prog W .any base t v := hval0
  have hW' := hW
  obtain ⟨p, q, hA0, hV, rfl, hfz, hnd⟩ := hW
  have hA : DataW.TrodAll enc Try.prog W 0 (fun _ => true) true Try.f3.params.toList args.toList ds p := hA0
  rw [Try.params3] at hA hval
  obtain ⟨v0, vs0, d0, ds0, p0, q0, hargs, rfl, rfl, h0, r0⟩ := trodAll_cons hA
  obtain ⟨rfl, rfl, rfl⟩ := trodAll_nil r0
  obtain rfl : args = #[v0] := by cases args; simp_all
  obtain ⟨rfl, rfl⟩ := trodVars_none hV
  obtain ⟨a0, len0, cap0, rfl⟩ := okWide_slice Try.underlying22 (hval 0 22 v0 rfl rfl)
  have k0 := h0
  have lt0 : ∀ x ∈ p0, x.block < W.heap.size := by obtain ⟨m, hm⟩ := k0; exact DataW.trod_lt m _ _ _ hm
  obtain ⟨z0, w0⟩ : ∃ zs, IsRow .u8 W a0 len0 cap0 zs := by
    obtain ⟨fuel, hf⟩ := h0
    rcases open_ints Try.underlying22 Try.underlying5 (by kernel_rfl) hf with ⟨hcs, _⟩ | ⟨x, l, c, zs, hcs, _, hl, hm, hz, _, hcell, hwz⟩
    · simp [Value.cells] at hcs
      obtain ⟨rfl, rfl, rfl⟩ := hcs
      exact ⟨[], .inl ⟨rfl, rfl, rfl, rfl⟩⟩
    · simp [Value.cells] at hcs
      obtain ⟨rfl, rfl, rfl⟩ := hcs
      exact ⟨zs, .inr ⟨_, rfl, hl, hm, by simpa using hz, hcell, hwz⟩⟩
  clear hA0 hval0
  refine (walk a0 len0 cap0 z0 W w0).mono fun e W' ⟨he, bel⟩ => ?_
  subst he
  exact ⟨_, rfl, _, _, _, [], _, [], hW', trodAll_mk1 (shut_bool Try.underlying4 _), (trodAll_cons_mk (Below.trod laidOut (by kernel_rfl) (of_decide_eq_true (by kernel_rfl)) k0 bel lt0) trodAll_mk0), rfl, bel.frame _, fun h => by cases h⟩

theorem over : Rows.fnCodesRow.holds Try.pinned (OpenSpec.ofChange Rows.fnCodesSpec) :=
  OpenClaim.holds_of_wide 3 Try.f3 rfl rfl rfl rfl rfl rfl rfl ⟨rfl, rfl, rfl, rfl, rfl⟩ rfl rfl rfl rfl rfl (by kernel_rfl) Try.func3 (by kernel_rfl)
    (of_decide_eq_true (by kernel_rfl)) (by unfold Func.isWrapper; first | (rw [if_pos (by decide +kernel)]; kernel_rfl) | (rw [if_neg (by decide +kernel)]; exact ⟨rfl, rfl⟩))
    (fun os started H enc _ => lifted os started H enc)

/-- ████ THE STATEMENT ████ -/
theorem proved : Rows.FnCodesSaid := over
#print axioms proved
end Go.Proofs.Ytakdmgnkcpahbaa.fnCodes
