/-
  The law on MatchAt returns true at every list of bytes and every int, and its arguments read afterwards as they read before; there is no further condition.
-/
import Derived.Test.YtakdmgnkcpahbaaSMatch
import Derived.ShutString
import Derived.ChangeOld
namespace Go.Proofs.Ytakdmgnkcpahbaa
open Go.ChangeShapes Go.WideShapes Go.ChangeAt Go.RowKit
set_option linter.unusedVariables false

/-- Alike lists are told to be alike. -/
theorem eqByte_any (w : World) (b1 o1 c1 b2 o2 c2 : Nat) (zs : List Int) (hl : zs.length ≤ 1048576)
    (h1 : ∀ i, i < zs.length → w.cell? ⟨b1, o1 + i, none⟩ = some (.int .u8 (zs.getD i 0))) (h2 : ∀ i, i < zs.length → w.cell? ⟨b2, o2 + i, none⟩ = some (.int .u8 (zs.getD i 0))) :
    Calls Try.prog 20 #[.slice (some ⟨b1, o1, none⟩) zs.length c1, .slice (some ⟨b2, o2, none⟩) zs.length c2] w fun e w' => e = .returned (.bool true) ∧ ∃ q, w' = w.drewN q := by
  go_enter Try.func20, Try.ntmps20
  go_wp2
  go_loopw [5] (fun i wr => ∃ k q : Nat, k ≤ zs.length ∧ i = .int .i64 k ∧ wr = w.drewN q) (fun i _ => zs.length - (intOf i).toNat)
  case atStart => exact ⟨0, 0, Nat.zero_le _, rfl, rfl⟩
  case round =>
    obtain ⟨k, q, hk, rfl, rfl⟩ := hrel
    by_cases hlt : k < zs.length
    · have c0 := h1 k hlt
      have c1 := h2 k hlt
      clear h1 h2
      generalize zs.getD k 0 = x at *
      have hq : (x == x) = true := by simp
      go_wp2
      go_quiet (fail)
      go_wp2
      go_roundw
      case rel => exact ⟨k + 1, _, by omega, by go_num, rfl⟩
      case measure => simp [intOf]; omega
    · clear h1 h2
      go_wp2
      go_ret
      exact ⟨rfl, _, rfl⟩

def mtR (zs : List Int) (a : Int) : Bool := decide (6000 < zs.length) || decide (a < 0) || decide ((zs.length : Int) < a)
def mtX (zs : List Int) (a : Int) : Int := if mtR zs a then 0 else mtA zs a.toNat
def mtY (zs : List Int) (a : Int) : Int := if mtR zs a then 0 else mtB zs a.toNat

set_option maxHeartbeats 1000000 in
theorem imatch_any (w : World) (b off cap : Nat) (zs : List Int) (a : Int) (hc : ∀ i, i < zs.length → w.cell? ⟨b, off + i, none⟩ = some (.int .u8 (zs.getD i 0))) (hl : zs.length ≤ 1048576) (a1 : -9223372036854775808 ≤ a) (a2 : a ≤ 9223372036854775807) :
    Calls Try.prog 19 #[.slice (some ⟨b, off, none⟩) zs.length cap, .int .i64 a] w fun e w' => e = .returned (.tuple #[.int .i64 (mtX zs a), .int .i64 (mtY zs a)]) ∧ ∃ q, w' = w.drewN q := by
  unfold mtX mtY
  by_cases hr : mtR zs a = true
  · rw [if_pos hr, if_pos hr]
    clear hc
    by_cases h1 : 6000 < zs.length
    · have d1 : decide ((6000 : Int) < (zs.length : Int)) = true := by simp; omega
      go_enter Try.func19, Try.ntmps19
      go_wp2
      go_ret2
      exact ⟨rfl, 0, rfl⟩
    · have d1 : decide ((6000 : Int) < (zs.length : Int)) = false := by simp; omega
      by_cases h2 : a < 0
      · have d2 : decide (a < 0) = true := by simp; omega
        go_enter Try.func19, Try.ntmps19
        go_wp2
        go_ret2
        exact ⟨rfl, 0, rfl⟩
      · have h3 : (zs.length : Int) < a := by simp [mtR] at hr; omega
        have d2 : decide (a < 0) = false := by simp; omega
        have d3 : decide ((zs.length : Int) < a) = true := by simp; omega
        clear hr
        go_enter Try.func19, Try.ntmps19
        go_wp2
        go_ret2
        exact ⟨rfl, 0, rfl⟩
  · rw [if_neg hr, if_neg hr]
    have hr' : zs.length ≤ 6000 ∧ 0 ≤ a ∧ a ≤ zs.length := by simp [mtR] at hr; omega
    obtain ⟨n, rfl⟩ := Int.eq_ofNat_of_zero_le hr'.2.1
    show Calls Try.prog 19 #[.slice (some ⟨b, off, none⟩) zs.length cap, .int .i64 n] w fun e w' => e = .returned (.tuple #[.int .i64 (mtA zs n), .int .i64 (mtB zs n)]) ∧ ∃ q, w' = w.drewN q
    by_cases h : (258 : Int) ≤ (zs.length : Int) - (n : Int)
    · exact imatch_A w b off cap zs n hc hr'.1 (by omega) h
    · exact imatch_B w b off cap zs n hc hr'.1 (by omega) (zs.length - n) (by omega) (by omega)

set_option maxHeartbeats 400000 in
theorem sin_any (n lo hi : Int) (w : World) : Calls Try.prog 26 #[.int .i64 n, .int .i64 lo, .int .i64 hi] w fun e w' => e = .returned (.bool (decide (lo ≤ n) && decide (n ≤ hi))) ∧ w' = w := by
  by_cases h : lo ≤ n
  · have d : decide (lo ≤ n) = true := by simp [h]
    go_enter Try.func26, Try.ntmps26
    go_wp2
    go_ret
    exact ⟨by simp [h], rfl⟩
  · have d : decide (lo ≤ n) = false := by simp [h]
    have D : Hid _ := d
    clear h
    go_enter Try.func26, Try.ntmps26
    go_wp2
    go_ret
    exact ⟨by rw [D.out]; rfl, rfl⟩

set_option maxHeartbeats 1000000 in
theorem smatch_any (w : World) (b off cap : Nat) (zs : List Int) (a : Int) (hc : ∀ i, i < zs.length → w.cell? ⟨b, off + i, none⟩ = some (.int .u8 (zs.getD i 0))) (hl : zs.length ≤ 1048576) (a1 : -9223372036854775808 ≤ a) (a2 : a ≤ 9223372036854775807) :
    Calls Try.prog 17 #[.slice (some ⟨b, off, none⟩) zs.length cap, .int .i64 a] w fun e w' => e = .returned (.tuple #[.int .i64 (mtX zs a), .int .i64 (mtY zs a)]) ∧ ∃ q, w' = w.drewN q := by
  unfold mtX mtY
  have HIN : Hid (∀ W, Calls Try.prog 26 #[.int .i64 a, .int .i64 0, .int .i64 zs.length] W fun e w' => e = .returned (.bool (decide (0 ≤ a) && decide (a ≤ (zs.length : Int)))) ∧ w' = W) := fun W => sin_any a 0 _ W
  by_cases hr : mtR zs a = true
  · rw [if_pos hr, if_pos hr]
    clear hc
    by_cases h1 : 6000 < zs.length
    · have d1 : decide ((6000 : Int) < (zs.length : Int)) = true := by simp; omega
      go_enter Try.func17, Try.ntmps17
      go_wp2
      go_ret2
      exact ⟨rfl, 0, rfl⟩
    · have d1 : decide ((6000 : Int) < (zs.length : Int)) = false := by simp; omega
      have hv : (decide (0 ≤ a) && decide (a ≤ (zs.length : Int))) = false := by
        simp [mtR] at hr
        rw [Bool.and_eq_false_iff]; simp; omega
      rw [hv] at HIN
      clear hr hv
      go_enter Try.func17, Try.ntmps17
      go_wp2_with fail
      refine Calls.mono (HIN.out _) ?_
      rintro e w1 ⟨rfl, rfl⟩
      go_wp2
      go_ret2
      exact ⟨rfl, 0, rfl⟩
  · rw [if_neg hr, if_neg hr]
    have hr' : zs.length ≤ 6000 ∧ 0 ≤ a ∧ a ≤ zs.length := by simp [mtR] at hr; omega
    obtain ⟨n, rfl⟩ := Int.eq_ofNat_of_zero_le hr'.2.1
    have hv : (decide (0 ≤ (n : Int)) && decide ((n : Int) ≤ (zs.length : Int))) = true := by simp; omega
    rw [hv] at HIN
    have d1 : decide ((6000 : Int) < (zs.length : Int)) = false := by simp; omega
    have HC : Hid (∀ W : World, W = w → Calls Try.prog 33 #[.slice (some ⟨b, off, none⟩) zs.length cap, .int .i64 n] W fun e w' => e = .returned (.tuple #[.int .i64 (mtA zs n), .int .i64 (mtB zs n)]) ∧ ∃ q, w' = w.drewN q) := by
      intro W hW
      subst hW
      by_cases h : (258 : Int) ≤ (zs.length : Int) - (n : Int)
      · exact smatch_A W b off cap zs n hc hr'.1 (by omega) h
      · exact smatch_B W b off cap zs n hc hr'.1 (by omega) (zs.length - n) (by omega) (by omega)
    show Calls Try.prog 17 #[.slice (some ⟨b, off, none⟩) zs.length cap, .int .i64 n] w fun e w' => e = .returned (.tuple #[.int .i64 (mtA zs n), .int .i64 (mtB zs n)]) ∧ ∃ q, w' = w.drewN q
    generalize mtA zs n = RA at *
    generalize mtB zs n = RB at *
    clear hc hr hr' hv
    go_enter Try.func17, Try.ntmps17
    go_wp2_with fail
    refine Calls.mono (HIN.out _) ?_
    rintro e w1 ⟨rfl, rfl⟩
    go_wp2_with fail
    refine Calls.mono (HC.out _ rfl) ?_
    rintro e w1 ⟨rfl, q, rfl⟩
    go_wp2
    go_ret2
    exact ⟨rfl, _, rfl⟩

theorem row_cells (k : IntKind) (w : World) (zs : List Int) (t : TypeId) : ∀ i, i < zs.length → (w.alloc (.cells (cellsOf k zs) t)).cell? ⟨w.heap.size, 0 + i, none⟩ = some (.int k (zs.getD i 0)) := by
  intro i hi
  have := cellsOf_get k zs i hi
  simp [this]
end Go.Proofs.Ytakdmgnkcpahbaa

namespace Go.Proofs.Ytakdmgnkcpahbaa.fnExactMatchAt
open Go.ChangeShapes Go.WideShapes Go.ChangeAt Go.RowKit
open Go.ChangeMaps (open_string shut_string)
set_option linter.unusedVariables false

theorem own : ownKnob Try.prog.godebug = none := by kernel_rfl
theorem laidOut : laidOutB Try.prog = true := by kernel_rfl

/-- WHAT THE WALK IS TOLD OF A SLICE OF INTEGERS THAT CAME IN: it is nil; or it leads to a row of 'cap' cells, the numbers 'zs' (the first 'len' are its elements, the rest its spare room), each fitting its kind. -/
def IsRow (k : IntKind) (w : World) (a : Option Addr) (len cap : Nat) (zs : List Int) : Prop :=
  (a = none ∧ len = 0 ∧ cap = 0 ∧ zs = []) ∨
  ∃ x, a = some x ∧ len ≤ cap ∧ cap ≤ maxLen ∧ zs.length = cap ∧ (∀ i, i < zs.length → w.cell? (x.add i) = some (.int k (zs.getD i 0))) ∧ ∀ n ∈ zs, (Lit.int k n).wf = true

theorem row_of {k : IntKind} {w : World} {a : Option Addr} {len cap : Nat} {z : List Int} (h : IsRow k w a len cap z) : Row k w a (z.take len) ∧ (z.take len).length = len := by
  rcases h with ⟨_, h, _, h2⟩ | ⟨x, rfl, hl, hm, hz, hcell, hwz⟩
  · subst h; exact ⟨Or.inl rfl, rfl⟩
  · by_cases h0 : len = 0
    · subst h0; exact ⟨Or.inl rfl, rfl⟩
    · obtain ⟨b, off, spot⟩ := x
      have hc := hcell 0 (by omega)
      have hspot : spot = none := by simpa [Addr.add] using World.cell?_spot hc
      subst hspot
      refine ⟨Or.inr ⟨b, off, rfl, World.block_lt_of_cell? w _ hc, fun i hi => ?_⟩, by simp; omega⟩
      have hi' : i < len := by simp at hi; omega
      have hci := hcell i (by omega)
      have e1 : (z.take len).getD i 0 = z.getD i 0 := by simp [hi']
      rw [e1, ← hci]
      congr 1
      by_cases h00 : i = 0
      · subst h00; simp [Addr.add]
      · simp [Addr.add, h00]

/-! ### STEP 1: THE WALK: the Go text returns true, AND WRITES NOTHING THAT WAS THERE: 'Below w.heap.size w w'' (Derived/Below.lean: '.refl', '.alloc', '.drew', '.setCell' at a new block, '.trans'). Open each 'IsRow' by 'rcases' AHEAD of 'go_enter'; part every test ahead of the walk. -/
theorem walk (a0 : Option Addr) (len0 cap0 : Nat) (z0 : List Int) (a1 : Int) (w : World) (w0 : IsRow .u8 w a0 len0 cap0 z0) (w1 : (Lit.int .i64 a1).wf = true) :
    Calls Try.prog 6 #[.slice a0 len0 cap0, .int .i64 a1] w fun e w' => e = .returned (.bool true) ∧ Below w.heap.size w w' := by
  obtain ⟨hrow, hlen⟩ := row_of w0
  have ha := i64_bd w1
  have hlm : len0 ≤ maxLen := by
    rcases w0 with ⟨_, h, _, _⟩ | ⟨x, _, hl, hm, _, _, _⟩
    · omega
    · omega
  unfold maxLen at hlm
  clear w0 w1
  generalize z0.take len0 = zs at *
  subst hlen
  by_cases hbig : 1048576 < (zs.length : Int)
  · go_enter Try.func6, Try.ntmps6
    go_wp2
    go_ret
    exact ⟨rfl, Below.refl _ _⟩
  · have hbd : decide ((1048576 : Int) < (zs.length : Int)) = false := by simp; omega
    have hl : zs.length ≤ 1048576 := by omega
    have HR : Hid _ := hrow
    clear hrow hbig
    have HA : Hid _ := ha
    clear ha
    go_enter Try.func6, Try.ntmps6
    go_wp2_with fail
    refine Calls.mono (toByte_any w a0 cap0 zs HR.out hl) ?_
    rintro e w1 ⟨rfl, rfl⟩
    go_wp2_with fail
    refine Calls.mono (smatch_any _ _ 0 _ zs a1 (row_cells .u8 w zs 5) hl HA.out.1 HA.out.2) ?_
    rintro e w2 ⟨rfl, q1, rfl⟩
    have K1 : Hid (Kp w ((w.alloc (.cells (cellsOf .u8 zs) 5)).drewN q1)) := ((Kp.refl w).alloc _ _).drewN _
    generalize (w.alloc (.cells (cellsOf .u8 zs) 5)).drewN q1 = W1 at *
    go_wp2_with fail
    refine Calls.mono (toByte_any W1 a0 cap0 zs (Row.keep HR.out K1.out) hl) ?_
    rintro e w3 ⟨rfl, rfl⟩
    go_wp2_with fail
    refine Calls.mono (imatch_any _ _ 0 _ zs a1 (row_cells .u8 W1 zs 5) hl HA.out.1 HA.out.2) ?_
    rintro e w2 ⟨rfl, q2, rfl⟩
    have K2 : Hid (Kp W1 ((W1.alloc (.cells (cellsOf .u8 zs) 5)).drewN q2)) := ((Kp.refl W1).alloc _ _).drewN _
    have R2 : Hid (∀ i, i < zs.length → ((W1.alloc (.cells (cellsOf .u8 zs) 5)).drewN q2).cell? ⟨W1.heap.size, 0 + i, none⟩ = some (.int .u8 (zs.getD i 0))) := row_cells .u8 W1 zs 5
    have hs2 : W1.heap.size < ((W1.alloc (.cells (cellsOf .u8 zs) 5)).drewN q2).heap.size := by simp
    generalize (W1.alloc (.cells (cellsOf .u8 zs) 5)).drewN q2 = W2 at *
    generalize mtX zs a1 = X at *
    generalize mtY zs a1 = Y at *
    have hqX : (X != X) = false := by simp
    have hqY : (Y != Y) = false := by simp
    go_wp2_with fail
    refine Calls.mono (toByte_any W2 a0 cap0 zs (Row.keep HR.out (Kp.trans K1.out K2.out)) hl) ?_
    rintro e w3 ⟨rfl, rfl⟩
    have K3 : Hid (Kp W2 (W2.alloc (.cells (cellsOf .u8 zs) 5))) := (Kp.refl W2).alloc _ _
    have R3 : Hid (∀ i, i < zs.length → (W2.alloc (.cells (cellsOf .u8 zs) 5)).cell? ⟨W2.heap.size, 0 + i, none⟩ = some (.int .u8 (zs.getD i 0))) := row_cells .u8 W2 zs 5
    have R2' : Hid (∀ i, i < zs.length → (W2.alloc (.cells (cellsOf .u8 zs) 5)).cell? ⟨W1.heap.size, 0 + i, none⟩ = some (.int .u8 (zs.getD i 0))) := fun i hi => (K3.out.cells.1 _ _ hs2).trans (R2.out i hi)
    generalize W2.alloc (.cells (cellsOf .u8 zs) 5) = W3 at *
    go_wp2_with fail
    refine Calls.mono (eqByte_any W3 _ 0 _ _ 0 _ zs hl R2'.out R3.out) ?_
    rintro e w4 ⟨rfl, q3, rfl⟩
    go_wp2
    go_ret
    exact ⟨rfl, (Kp.trans K1.out (Kp.trans K2.out (Kp.drewN K3.out q3))).1⟩

/-! ### THE ROW's STEP: WRITTEN OUT: LEAVE IT -/
set_option maxRecDepth 100000 in
theorem lifted (os : Os) (started : os.Started) (H : Type) (enc : TypeId × Value → H) :
    ReturnsInHanded {} Try.checked os 6 .any (Rows.fnExactMatchAtSpec.pre6 enc Try.prog Try.f6 Rows.fnExactMatchAtRow.domain false) (Rows.fnExactMatchAtSpec.post enc Try.prog Try.f6 false true false false) := by
  refine returnsInHanded_of_change (C := Try.checked) own started (by kernel_rfl) Try.func6
    (ChangeSpec.witness6 (enc := enc) (C := Try.checked) false ⟨#[], #[.slice none 0 0, .int .i64 0], []⟩ 8 (by kernel_rfl) (by kernel_rfl) (by kernel_rfl) (by kernel_rfl)) ?_
  intro W base args ds gs before hval0 hW hcnd _
  have hval : ∀ (j : Nat) t v, Try.f6.params[j]? = some t → args[j]? = some v → Value.okWide Try.prog W .any base t v := hval0
  have hW' := hW
  obtain ⟨p, q, hA0, hV, rfl, hfz, hnd⟩ := hW
  have hA : DataW.TrodAll enc Try.prog W 0 (fun _ => true) true Try.f6.params.toList args.toList ds p := hA0
  rw [Try.params6] at hA hval
  obtain ⟨v0, vs0, d0, ds0, p0, q0, hargs, rfl, rfl, h0, r0⟩ := trodAll_cons hA
  obtain ⟨v1, vs1, d1, ds1, p1, q1, rfl, rfl, rfl, h1, r1⟩ := trodAll_cons r0
  obtain ⟨rfl, rfl, rfl⟩ := trodAll_nil r1
  obtain rfl : args = #[v0, v1] := by cases args; simp_all
  obtain ⟨rfl, rfl⟩ := trodVars_none hV
  obtain ⟨a0, len0, cap0, rfl⟩ := okWide_slice Try.underlying22 (hval 0 22 v0 rfl rfl)
  have k0 := h0
  have lt0 : ∀ x ∈ p0, x.block < W.heap.size := by obtain ⟨m, hm⟩ := k0; exact DataW.trod_lt m _ _ _ hm
  obtain ⟨z0, w0⟩ : ∃ zs, IsRow .u8 W a0 len0 cap0 zs := by
    obtain ⟨fuel, hf⟩ := h0
    rcases open_ints Try.underlying22 Try.underlying5 (by kernel_rfl) hf with ⟨hcs, _⟩ | ⟨x, l, c, zs, hcs, _, hl, hm, hz, _, hcell, hwz⟩
    · simp [Value.cells] at hcs
      obtain ⟨rfl, rfl, rfl⟩ := hcs
      exact ⟨[], .inl ⟨rfl, rfl, rfl, rfl⟩⟩
    · simp [Value.cells] at hcs
      obtain ⟨rfl, rfl, rfl⟩ := hcs
      exact ⟨zs, .inr ⟨_, rfl, hl, hm, by simpa using hz, hcell, hwz⟩⟩
  obtain ⟨a1, rfl, rfl, rfl, w1⟩ := open_int Try.underlying3 (hval 1 3 v1 rfl rfl) h1
  clear hA0 hval0
  refine (walk a0 len0 cap0 z0 a1 W w0 w1).mono fun e W' ⟨he, bel⟩ => ?_
  subst he
  exact ⟨_, rfl, _, _, _, [], _, [], hW', trodAll_mk1 (shut_bool Try.underlying4 _), (trodAll_cons_mk (Below.trod laidOut (by kernel_rfl) (of_decide_eq_true (by kernel_rfl)) k0 bel lt0) (trodAll_cons_mk (shut_int Try.underlying3 w1) trodAll_mk0)), rfl, bel.frame _, fun h => by cases h⟩

theorem over : Rows.fnExactMatchAtRow.holds Try.pinned (OpenSpec.ofChange Rows.fnExactMatchAtSpec) :=
  OpenClaim.holds_of_wide 6 Try.f6 rfl rfl rfl rfl rfl rfl rfl ⟨rfl, rfl, rfl, rfl, rfl⟩ rfl rfl rfl rfl rfl (by kernel_rfl) Try.func6 (by kernel_rfl)
    (of_decide_eq_true (by kernel_rfl)) (by unfold Func.isWrapper; first | (rw [if_pos (by decide +kernel)]; kernel_rfl) | (rw [if_neg (by decide +kernel)]; exact ⟨rfl, rfl⟩))
    (fun os started H enc _ => lifted os started H enc)

/-- ████ THE STATEMENT ████ -/
theorem proved : Rows.FnExactMatchAtSaid := over
#print axioms proved
end Go.Proofs.Ytakdmgnkcpahbaa.fnExactMatchAt
