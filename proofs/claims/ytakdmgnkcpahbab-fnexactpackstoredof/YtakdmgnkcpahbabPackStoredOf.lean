/-
  The law on PackStoredOf returns true at every list of bytes, and its argument reads afterwards as it read before; there is no further condition.
-/
import Derived.Test.YtakdmgnkcpahbabHold
import Derived.ShutString
import Derived.ChangeOld
namespace Go.Proofs.Ytakdmgnkcpahbab
open Go.ChangeShapes Go.WideShapes Go.ChangeAt Go.RowKit
set_option linter.unusedVariables false

/-- What a call that answers a list of bytes and true leaves. -/
def Made (W w' : World) (g : Nat) (cs : List Int) : Prop := Nw W w' ∧ W.heap.size ≤ g ∧ At w' g cs

set_option maxHeartbeats 4000000 in
theorem law_yes (w : World) (a0 : Option Addr) (cap0 : Nat) (zs cs : List Int) (hr : Row .u8 w a0 zs) (hl : zs.length ≤ 1048576) (hl2 : cs.length ≤ 1048576)
    (hS : ∀ W b c, At W b zs → Calls Try.prog 4 #[.slice (some ⟨b, 0, none⟩) zs.length c] W fun e w' => ∃ g c2, e = .returned (.tuple #[.slice (some ⟨g, 0, none⟩) cs.length c2, .bool true]) ∧ Made W w' g cs)
    (hI : ∀ W b c, At W b zs → Calls Try.prog 6 #[.slice (some ⟨b, 0, none⟩) zs.length c] W fun e w' => ∃ g c2, e = .returned (.tuple #[.slice (some ⟨g, 0, none⟩) cs.length c2, .bool true]) ∧ Made W w' g cs) :
    Calls Try.prog 3 #[.slice a0 zs.length cap0] w fun e w' => e = .returned (.bool true) ∧ Below w.heap.size w w' := by
  have hbd : decide ((1048576 : Int) < (zs.length : Int)) = false := by simp; omega
  have HR : Hid (Row .u8 w a0 zs) := hr
  have HS : Hid _ := hS
  have HI : Hid _ := hI
  clear hr hS hI
  go_enter Try.func3, Try.ntmps3
  go_wp2_with fail
  refine Calls.mono (toByte_at w a0 cap0 zs HR.out hl) ?_
  rintro e w1 ⟨rfl, k1, t1⟩
  have S1 : Hid (Nw w w1) := k1
  have T1 : Hid (At w1 w.heap.size zs) := t1
  clear k1 t1
  go_wp2_with fail
  refine Calls.mono (HS.out w1 _ _ T1.out) ?_
  rintro e w2 ⟨g0, c0, rfl, k1, z1, t1⟩
  have S2 : Hid (Nw w w2) := Nw.trans S1.out k1
  have C2 : Hid (At w2 g0 cs) := t1
  have z0 : w.heap.size ≤ g0 := Nat.le_trans (Below.size S1.out) z1
  clear k1 t1 S1 T1 z1
  go_wp2_with fail
  refine Calls.mono (toByte_at w2 a0 cap0 zs (Row.below HR.out S2.out) hl) ?_
  rintro e w3 ⟨rfl, k1, t1⟩
  have S3 : Hid (Nw w w3) := Nw.trans S2.out k1
  have C3 : Hid (At w3 g0 cs) := At.nw C2.out k1
  have X3 : Hid (At w3 w2.heap.size zs) := t1
  have z2 : g0 < w2.heap.size := C2.out.1
  clear k1 t1 C2 S2
  go_wp2_with fail
  refine Calls.mono (HI.out w3 _ _ X3.out) ?_
  rintro e w4 ⟨B, c1, rfl, k1, z3, t1⟩
  have S4 : Hid (Nw w w4) := Nw.trans S3.out k1
  have C4 : Hid (At w4 g0 cs) := At.nw C3.out k1
  have G4 : Hid (At w4 B cs) := t1
  have X4 : Hid (At w4 w2.heap.size zs) := At.nw X3.out k1
  have z4 : w2.heap.size < B := Nat.lt_of_lt_of_le X3.out.1 z3
  clear k1 t1 C3 S3 X3 z3
  go_wp2_with fail
  refine Calls.mono (eqByte_at w4 _ _ _ _ _ cs rfl hl2 G4.out C4.out) ?_
  rintro e w5 ⟨rfl, k1⟩
  have S5 : Hid (Nw w w5) := Nw.trans S4.out k1
  have C5 : Hid (At w5 g0 cs) := At.nw C4.out k1
  have G5 : Hid (At w5 B cs) := At.nw G4.out k1
  have X5 : Hid (At w5 w2.heap.size zs) := At.nw X4.out k1
  clear k1 C4 S4 X4 G4
  go_wp2_with fail
  refine Calls.mono (toByte_at w5 a0 cap0 zs (Row.below HR.out S5.out) hl) ?_
  rintro e w6 ⟨rfl, k1, t1⟩
  have S6 : Hid (Nw w w6) := Nw.trans S5.out k1
  have C6 : Hid (At w6 g0 cs) := At.nw C5.out k1
  have G6 : Hid (At w6 B cs) := At.nw G5.out k1
  have X6 : Hid (At w6 w2.heap.size zs) := At.nw X5.out k1
  have A6 : Hid (At w6 w5.heap.size zs) := t1
  clear k1 t1 C5 S5 X5 G5
  go_wp2_with fail
  refine Calls.mono (eqByte_at w6 _ _ _ _ _ zs rfl hl X6.out A6.out) ?_
  rintro e w7 ⟨rfl, k1⟩
  have S7 : Hid (Nw w w7) := Nw.trans S6.out k1
  have C7 : Hid (At w7 g0 cs) := At.nw C6.out k1
  have G7 : Hid (At w7 B cs) := At.nw G6.out k1
  have X7 : Hid (At w7 w2.heap.size zs) := At.nw X6.out k1
  clear k1 C6 S6 X6 G6 A6
  go_wp2_with fail
  refine Calls.mono (mark_at w7 _ _ zs hl X7.out) ?_
  rintro e w8 ⟨rfl, k1, t1⟩
  have S8 : Hid (Below w.heap.size w w8) := Below.trans S7.out (k1.below.mono (by omega))
  have C8 : Hid (At w8 g0 cs) := At.sel C7.out k1 (by omega)
  have G8 : Hid (At w8 B cs) := At.sel G7.out k1 (by omega)
  clear k1 t1 C7 S7 X7 G7
  have hneg : decide ((1 : Int) + (zs.length : Int) < 0) = false := by simp; omega
  go_wp2_with fail
  refine Calls.mono (eqByte_at w8 _ _ _ _ _ cs rfl hl2 G8.out C8.out) ?_
  rintro e w9 ⟨rfl, k1⟩
  have S9 : Hid (Below w.heap.size w w9) := Below.trans S8.out (Below.mono k1 (Below.size S8.out))
  have C9 : Hid (At w9 g0 cs) := At.nw C8.out k1
  have G9 : Hid (At w9 B cs) := At.nw G8.out k1
  clear k1 C8 S8 G8
  go_wp2_with fail
  refine Calls.mono (mark_at w9 _ _ cs hl2 G9.out) ?_
  rintro e wA ⟨rfl, k1, t1⟩
  have SA : Hid (Below w.heap.size w wA) := Below.trans S9.out (k1.below.mono (by omega))
  have CA : Hid (At wA g0 cs) := At.sel C9.out k1 (by omega)
  have GA : Hid (At wA B (marked cs.length)) := t1
  clear k1 t1 C9 S9 G9
  have hq1 : ((1 : Int) + (cs.length : Int) != 1 + (cs.length : Int)) = false := by simp
  have hneg2 : decide ((1 : Int) + (cs.length : Int) < 0) = false := by simp; omega
  go_wp2_with fail
  refine Calls.mono (held_at wA _ _ cs.length hl2 GA.out) ?_
  rintro e wA ⟨rfl, rfl⟩
  go_wp2_with fail
  refine Calls.mono (toByte_at wA a0 cap0 zs (Row.below HR.out SA.out) hl) ?_
  rintro e wB ⟨rfl, k1, t1⟩
  have SB : Hid (Below w.heap.size w wB) := Below.trans SA.out (Below.mono k1 (Below.size SA.out))
  have CB : Hid (At wB g0 cs) := At.nw CA.out k1
  have GB : Hid (At wB B (marked cs.length)) := At.nw GA.out k1
  have XB : Hid (At wB wA.heap.size zs) := t1
  clear k1 t1 CA SA GA
  go_wp2_with fail
  refine Calls.mono (HI.out wB _ _ XB.out) ?_
  rintro e wC ⟨B2, c2, rfl, k1, z5, t1⟩
  have SC : Hid (Below w.heap.size w wC) := Below.trans SB.out (Below.mono k1 (Below.size SB.out))
  have CC : Hid (At wC g0 cs) := At.nw CB.out k1
  have GC : Hid (At wC B (marked cs.length)) := At.nw GB.out k1
  have HC : Hid (At wC B2 cs) := t1
  clear k1 t1 CB SB GB XB z5
  go_wp2_with fail
  refine Calls.mono (eqByte_at wC _ _ _ _ _ cs rfl hl2 HC.out CC.out) ?_
  rintro e wD ⟨rfl, k1⟩
  have SD : Hid (Below w.heap.size w wD) := Below.trans SC.out (Below.mono k1 (Below.size SC.out))
  have GD : Hid (At wD B (marked cs.length)) := At.nw GC.out k1
  clear k1 CC SC GC HC
  go_wp2_with fail
  refine Calls.mono (held_at wD _ _ cs.length hl2 GD.out) ?_
  rintro e wD ⟨rfl, rfl⟩
  go_wp2
  go_ret
  exact ⟨rfl, SD.out⟩

theorem eqByte_nil (W : World) : Calls Try.prog 7 #[.slice none 0 0, .slice none 0 0] W fun e w' => e = .returned (.bool true) ∧ Nw W w' := by
  refine (eqByte_any W none none 0 0 [] (by simp) (Or.inl rfl) (Or.inl rfl)).mono ?_
  rintro e w' ⟨he, q, rfl⟩
  exact ⟨he, ((Kp.refl W).drewN q).nw⟩
theorem mark_nil (W : World) : Calls Try.prog 8 #[.slice none 0 0, .int .i64 1] W fun e w' => e = .returned (.int .i64 1) ∧ w' = W := by
  go_enter Try.func8, Try.ntmps8
  go_wp2
  go_loop [1, 5] (fun k i => k = .int .i64 1 ∧ i = .int .i64 0) (fun _ _ => 0)
  case atStart => exact ⟨rfl, rfl⟩
  case round =>
    obtain ⟨rfl, rfl⟩ := hrel
    go_wp2
    go_ret
    exact ⟨rfl, rfl⟩
theorem held_nil (W : World) : Calls Try.prog 9 #[.slice none 0 0, .int .i64 1] W fun e w' => e = .returned (.int .i64 1) ∧ w' = W := by
  go_enter Try.func9, Try.ntmps9
  go_wp2
  go_loop [1, 5] (fun k i => k = .int .i64 1 ∧ i = .int .i64 0) (fun _ _ => 0)
  case atStart => exact ⟨rfl, rfl⟩
  case round =>
    obtain ⟨rfl, rfl⟩ := hrel
    go_wp2
    go_ret
    exact ⟨rfl, rfl⟩

set_option maxHeartbeats 4000000 in
theorem law_no (w : World) (a0 : Option Addr) (cap0 : Nat) (zs : List Int) (hr : Row .u8 w a0 zs) (hl : zs.length ≤ 1048576)
    (hS : ∀ W b c, At W b zs → Calls Try.prog 4 #[.slice (some ⟨b, 0, none⟩) zs.length c] W fun e w' => e = .returned (.tuple #[.slice none 0 0, .bool false]) ∧ w' = W)
    (hI : ∀ W b c, At W b zs → Calls Try.prog 6 #[.slice (some ⟨b, 0, none⟩) zs.length c] W fun e w' => e = .returned (.tuple #[.slice none 0 0, .bool false]) ∧ w' = W) :
    Calls Try.prog 3 #[.slice a0 zs.length cap0] w fun e w' => e = .returned (.bool true) ∧ Below w.heap.size w w' := by
  have hbd : decide ((1048576 : Int) < (zs.length : Int)) = false := by simp; omega
  have HS : Hid _ := hS
  have HI : Hid _ := hI
  have HR : Hid (Row .u8 w a0 zs) := hr
  clear hr hS hI
  go_enter Try.func3, Try.ntmps3
  go_wp2_with fail
  refine Calls.mono (toByte_at w a0 cap0 zs HR.out hl) ?_
  rintro e w1 ⟨rfl, k1, t1⟩
  have S1 : Hid (Nw w w1) := k1
  have T1 : Hid (At w1 w.heap.size zs) := t1
  clear k1 t1
  go_wp2_with fail
  refine Calls.mono (HS.out w1 _ _ T1.out) ?_
  rintro e w2 ⟨rfl, rfl⟩
  clear T1
  go_wp2_with fail
  refine Calls.mono (toByte_at w2 a0 cap0 zs (Row.below HR.out S1.out) hl) ?_
  rintro e w3 ⟨rfl, k1, t1⟩
  have S3 : Hid (Nw w w3) := Nw.trans S1.out k1
  have z2 : w.heap.size ≤ w2.heap.size := Below.size S1.out
  have X3 : Hid (At w3 w2.heap.size zs) := t1
  clear k1 t1 S1
  go_wp2_with fail
  refine Calls.mono (HI.out w3 _ _ X3.out) ?_
  rintro e w4 ⟨rfl, rfl⟩
  go_wp2_with fail
  refine Calls.mono (eqByte_nil w4) ?_
  rintro e w5 ⟨rfl, k1⟩
  have S5 : Hid (Nw w w5) := Nw.trans S3.out k1
  have X5 : Hid (At w5 w2.heap.size zs) := At.nw X3.out k1
  clear k1 S3 X3
  go_wp2_with fail
  refine Calls.mono (toByte_at w5 a0 cap0 zs (Row.below HR.out S5.out) hl) ?_
  rintro e w6 ⟨rfl, k1, t1⟩
  have S6 : Hid (Nw w w6) := Nw.trans S5.out k1
  have X6 : Hid (At w6 w2.heap.size zs) := At.nw X5.out k1
  have A6 : Hid (At w6 w5.heap.size zs) := t1
  clear k1 t1 S5 X5
  go_wp2_with fail
  refine Calls.mono (eqByte_at w6 _ _ _ _ _ zs rfl hl X6.out A6.out) ?_
  rintro e w7 ⟨rfl, k1⟩
  have S7 : Hid (Nw w w7) := Nw.trans S6.out k1
  have X7 : Hid (At w7 w2.heap.size zs) := At.nw X6.out k1
  clear k1 S6 X6 A6
  go_wp2_with fail
  refine Calls.mono (mark_at w7 _ _ zs hl X7.out) ?_
  rintro e w8 ⟨rfl, k1, t1⟩
  have S8 : Hid (Below w.heap.size w w8) := Below.trans S7.out (k1.below.mono (by omega))
  clear k1 t1 S7 X7
  have hneg : decide ((1 : Int) + (zs.length : Int) < 0) = false := by simp; omega
  go_wp2_with fail
  refine Calls.mono (eqByte_nil w8) ?_
  rintro e w9 ⟨rfl, k1⟩
  have S9 : Hid (Below w.heap.size w w9) := Below.trans S8.out (Below.mono k1 (Below.size S8.out))
  clear k1 S8
  go_wp2_with fail
  refine Calls.mono (mark_nil w9) ?_
  rintro e w9 ⟨rfl, rfl⟩
  go_wp2_with fail
  refine Calls.mono (held_nil w9) ?_
  rintro e w9 ⟨rfl, rfl⟩
  go_wp2_with fail
  refine Calls.mono (toByte_at w9 a0 cap0 zs (Row.below HR.out S9.out) hl) ?_
  rintro e wB ⟨rfl, k1, t1⟩
  have SB : Hid (Below w.heap.size w wB) := Below.trans S9.out (Below.mono k1 (Below.size S9.out))
  have XB : Hid (At wB w9.heap.size zs) := t1
  clear k1 t1 S9
  go_wp2_with fail
  refine Calls.mono (HI.out wB _ _ XB.out) ?_
  rintro e wC ⟨rfl, rfl⟩
  clear XB
  go_wp2_with fail
  refine Calls.mono (eqByte_nil wC) ?_
  rintro e wD ⟨rfl, k1⟩
  have SD : Hid (Below w.heap.size w wD) := Below.trans SB.out (Below.mono k1 (Below.size SB.out))
  clear k1 SB
  go_wp2_with fail
  refine Calls.mono (held_nil wD) ?_
  rintro e wD ⟨rfl, rfl⟩
  go_wp2
  go_ret
  exact ⟨rfl, SD.out⟩

/-- A list of bytes by its naturals. -/
theorem nats_of (zs : List Int) (h : ∀ z ∈ zs, 0 ≤ z ∧ z ≤ 255) : ∃ ds : List Nat, zs = ints ds ∧ ∀ d ∈ ds, d < 256 := by
  refine ⟨zs.map Int.toNat, ?_, ?_⟩
  · unfold ints
    rw [List.map_map]
    conv => lhs; rw [← List.map_id zs]
    apply List.map_congr_left
    intro z hz
    have := h z hz
    simp; omega
  · intro d hd
    obtain ⟨z, hz, rfl⟩ := List.mem_map.1 hd
    have := h z hz
    omega

theorem stored_len (ds : List Nat) : (stored ds).length = ds.length + 5 := by simp [stored]
theorem cells_nat {W : World} {b : Nat} {ds : List Nat} (h : At W b (ints ds)) : ∀ i, i < ds.length → W.cell? ⟨b, 0 + i, none⟩ = some (.int .u8 ((ds.getD i 0 : Nat) : Int)) := by
  intro i hi
  have := h.2.1 i (by rw [ints_len]; exact hi)
  rwa [ints_get] at this
theorem law_all (w : World) (a0 : Option Addr) (cap0 : Nat) (zs : List Int) (hr : Row .u8 w a0 zs) (hl : zs.length ≤ 1048576) (h8 : ∀ z ∈ zs, 0 ≤ z ∧ z ≤ 255) :
    Calls Try.prog 3 #[.slice a0 zs.length cap0] w fun e w' => e = .returned (.bool true) ∧ Below w.heap.size w w' := by
  obtain ⟨ds, rfl, hd⟩ := nats_of zs h8
  by_cases h : ds.length ≤ 6000
  · refine law_yes w a0 cap0 (ints ds) (ints (stored ds)) hr hl (by rw [ints_len, stored_len]; omega) ?_ ?_
    · intro W b c ha
      have k := sstored W b c ds h ha.1 (cells_nat ha)
      rw [ints_len, ints_len]
      refine k.mono ?_
      rintro e w' ⟨g, c2, he, hg⟩
      exact ⟨g, c2, he, hg.1, hg.2.1, At.gave hg⟩
    · intro W b c ha
      have k := istored W b c ds h hd ha.1 (cells_nat ha)
      rw [ints_len, ints_len]
      refine k.mono ?_
      rintro e w' ⟨g, c2, he, hg⟩
      exact ⟨g, c2, he, hg.1, hg.2.1, At.gave hg⟩
  · refine law_no w a0 cap0 (ints ds) hr hl ?_ ?_
    · intro W b c ha
      exact sstored_no W _ _ c (by rw [ints_len]; omega) hl
    · intro W b c ha
      exact istored_no W _ _ c (by rw [ints_len]; omega) hl
end Go.Proofs.Ytakdmgnkcpahbab

namespace Go.Proofs.Ytakdmgnkcpahbab.fnExactPackStoredOf
open Go.ChangeShapes Go.WideShapes Go.ChangeAt Go.RowKit
open Go.ChangeMaps (open_string shut_string)
set_option linter.unusedVariables false

theorem own : ownKnob Try.prog.godebug = none := by kernel_rfl
theorem laidOut : laidOutB Try.prog = true := by kernel_rfl

/-- WHAT THE WALK IS TOLD OF A SLICE OF INTEGERS THAT CAME IN: it is nil; or it leads to a row of 'cap' cells, the numbers 'zs' (the first 'len' are its elements, the rest its spare room), each fitting its kind. -/
def IsRow (k : IntKind) (w : World) (a : Option Addr) (len cap : Nat) (zs : List Int) : Prop :=
  (a = none ∧ len = 0 ∧ cap = 0 ∧ zs = []) ∨
  ∃ x, a = some x ∧ len ≤ cap ∧ cap ≤ maxLen ∧ zs.length = cap ∧ (∀ i, i < zs.length → w.cell? (x.add i) = some (.int k (zs.getD i 0))) ∧ ∀ n ∈ zs, (Lit.int k n).wf = true

theorem row_of {k : IntKind} {w : World} {a : Option Addr} {len cap : Nat} {z : List Int} (h : IsRow k w a len cap z) : Row k w a (z.take len) ∧ (z.take len).length = len := by
  rcases h with ⟨_, h, _, h2⟩ | ⟨x, rfl, hl, hm, hz, hcell, hwz⟩
  · subst h; exact ⟨Or.inl rfl, rfl⟩
  · by_cases h0 : len = 0
    · subst h0; exact ⟨Or.inl rfl, rfl⟩
    · obtain ⟨b, off, spot⟩ := x
      have hc := hcell 0 (by omega)
      have hspot : spot = none := by simpa [Addr.add] using World.cell?_spot hc
      subst hspot
      refine ⟨Or.inr ⟨b, off, rfl, World.block_lt_of_cell? w _ hc, fun i hi => ?_⟩, by simp; omega⟩
      have hi' : i < len := by simp at hi; omega
      have hci := hcell i (by omega)
      have e1 : (z.take len).getD i 0 = z.getD i 0 := by simp [hi']
      rw [e1, ← hci]
      congr 1
      by_cases h00 : i = 0
      · subst h00; simp [Addr.add]
      · simp [Addr.add, h00]

/-! ### STEP 1: THE WALK: the Go text returns true, AND WRITES NOTHING THAT WAS THERE: 'Below w.heap.size w w'' (Derived/Below.lean: '.refl', '.alloc', '.drew', '.setCell' at a new block, '.trans'). Open each 'IsRow' by 'rcases' AHEAD of 'go_enter'; part every test ahead of the walk. -/
theorem walk (a0 : Option Addr) (len0 cap0 : Nat) (z0 : List Int) (w : World) (w0 : IsRow .u8 w a0 len0 cap0 z0) :
    Calls Try.prog 3 #[.slice a0 len0 cap0] w fun e w' => e = .returned (.bool true) ∧ Below w.heap.size w w' := by
  obtain ⟨hrow, hlen⟩ := row_of w0
  have h8 : ∀ z ∈ z0.take len0, 0 ≤ z ∧ z ≤ 255 := by
    intro z hz
    rcases w0 with ⟨_, _, _, rfl⟩ | ⟨x, _, hl, hm, _, _, hwz⟩
    · simp at hz
    · have := hwz z (List.mem_of_mem_take hz)
      simp [Lit.wf, IntKind.min, IntKind.max, IntKind.signed, IntKind.bits] at this; omega
  have hlm : len0 ≤ maxLen := by
    rcases w0 with ⟨_, h, _, _⟩ | ⟨x, _, hl, hm, _, _, _⟩
    · omega
    · omega
  unfold maxLen at hlm
  clear w0
  generalize z0.take len0 = zs at *
  subst hlen
  by_cases hbig : 1048576 < (zs.length : Int)
  · clear h8 hrow
    go_enter Try.func3, Try.ntmps3
    go_wp2
    go_ret
    exact ⟨rfl, Below.refl _ _⟩
  · exact law_all w a0 cap0 zs hrow (by omega) h8

/-! ### THE ROW's STEP: WRITTEN OUT: LEAVE IT -/
set_option maxRecDepth 100000 in
theorem lifted (os : Os) (started : os.Started) (H : Type) (enc : TypeId × Value → H) :
    ReturnsInHanded {} Try.checked os 3 .any (Rows.fnExactPackStoredOfSpec.pre6 enc Try.prog Try.f3 Rows.fnExactPackStoredOfRow.domain false) (Rows.fnExactPackStoredOfSpec.post enc Try.prog Try.f3 false true false false) := by
  refine returnsInHanded_of_change (C := Try.checked) own started (by kernel_rfl) Try.func3
    (ChangeSpec.witness6 (enc := enc) (C := Try.checked) false ⟨#[], #[.slice none 0 0], []⟩ 8 (by kernel_rfl) (by kernel_rfl) (by kernel_rfl) (by kernel_rfl)) ?_
  intro W base args ds gs before hval0 hW hcnd _
  have hval : ∀ (j : Nat) t v, Try.f3.params[j]? = some t → args[j]? = some v → Value.okWide Try.prog W .any base t v := hval0
  have hW' := hW
  obtain ⟨p, q, hA0, hV, rfl, hfz, hnd⟩ := hW
  have hA : DataW.TrodAll enc Try.prog W 0 (fun _ => true) true Try.f3.params.toList args.toList ds p := hA0
  rw [Try.params3] at hA hval
  obtain ⟨v0, vs0, d0, ds0, p0, q0, hargs, rfl, rfl, h0, r0⟩ := trodAll_cons hA
  obtain ⟨rfl, rfl, rfl⟩ := trodAll_nil r0
  obtain rfl : args = #[v0] := by cases args; simp_all
  obtain ⟨rfl, rfl⟩ := trodVars_none hV
  obtain ⟨a0, len0, cap0, rfl⟩ := okWide_slice Try.underlying22 (hval 0 22 v0 rfl rfl)
  have k0 := h0
  have lt0 : ∀ x ∈ p0, x.block < W.heap.size := by obtain ⟨m, hm⟩ := k0; exact DataW.trod_lt m _ _ _ hm
  obtain ⟨z0, w0⟩ : ∃ zs, IsRow .u8 W a0 len0 cap0 zs := by
    obtain ⟨fuel, hf⟩ := h0
    rcases open_ints Try.underlying22 Try.underlying5 (by kernel_rfl) hf with ⟨hcs, _⟩ | ⟨x, l, c, zs, hcs, _, hl, hm, hz, _, hcell, hwz⟩
    · simp [Value.cells] at hcs
      obtain ⟨rfl, rfl, rfl⟩ := hcs
      exact ⟨[], .inl ⟨rfl, rfl, rfl, rfl⟩⟩
    · simp [Value.cells] at hcs
      obtain ⟨rfl, rfl, rfl⟩ := hcs
      exact ⟨zs, .inr ⟨_, rfl, hl, hm, by simpa using hz, hcell, hwz⟩⟩
  clear hA0 hval0
  refine (walk a0 len0 cap0 z0 W w0).mono fun e W' ⟨he, bel⟩ => ?_
  subst he
  exact ⟨_, rfl, _, _, _, [], _, [], hW', trodAll_mk1 (shut_bool Try.underlying4 _), (trodAll_cons_mk (Below.trod laidOut (by kernel_rfl) (of_decide_eq_true (by kernel_rfl)) k0 bel lt0) trodAll_mk0), rfl, bel.frame _, fun h => by cases h⟩

theorem over : Rows.fnExactPackStoredOfRow.holds Try.pinned (OpenSpec.ofChange Rows.fnExactPackStoredOfSpec) :=
  OpenClaim.holds_of_wide 3 Try.f3 rfl rfl rfl rfl rfl rfl rfl ⟨rfl, rfl, rfl, rfl, rfl⟩ rfl rfl rfl rfl rfl (by kernel_rfl) Try.func3 (by kernel_rfl)
    (of_decide_eq_true (by kernel_rfl)) (by unfold Func.isWrapper; first | (rw [if_pos (by decide +kernel)]; kernel_rfl) | (rw [if_neg (by decide +kernel)]; exact ⟨rfl, rfl⟩))
    (fun os started H enc _ => lifted os started H enc)

/-- ████ THE STATEMENT ████ -/
theorem proved : Rows.FnExactPackStoredOfSaid := over
#print axioms proved
end Go.Proofs.Ytakdmgnkcpahbab.fnExactPackStoredOf
