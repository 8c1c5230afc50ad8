/-
  The law on CodesOf returns true at every list of ints, and its argument reads afterwards as it read before; there is no further condition.
-/
import Derived.Test.YtakdmgnkcpahbaaHold
namespace Go.Proofs.Ytakdmgnkcpahbaa
open Go.ChangeShapes Go.WideShapes Go.ChangeAt Go.RowKit
set_option linter.unusedVariables false

theorem scodesOf_at (W : World) (b c : Nat) (zs : List Int) (hl : zs.length ≤ 1048576) (h : At W b zs) (hf : fit zs = true) (hfu : full zs = true) :
    Calls Try.prog 9 #[.slice (some ⟨b, 0, none⟩) zs.length c] W fun e w' => e = .returned (.tuple #[.slice (some ⟨W.heap.size, 0, none⟩) zs.length zs.length, .bool true]) ∧ Kp W w' ∧ At w' W.heap.size (codesL zs) :=
  (scodesOf_yes W b 0 c zs hl h.1 h.2.1 hf hfu).mono fun e w' h => ⟨h.1, by rw [h.2]; exact (Kp.refl W).alloc _ _, by rw [h.2]; exact At.alloc W _ 3⟩
def Made (W w' : World) (B : Nat) (cs : List Int) : Prop := Kp W w' ∧ W.heap.size ≤ B ∧ At w' B cs
theorem icodesOf_at (W : World) (b c : Nat) (zs : List Int) (hl : zs.length ≤ 1048576) (h : At W b zs) (hf : fit zs = true) (hfu : full zs = true) :
    Calls Try.prog 8 #[.slice (some ⟨b, 0, none⟩) zs.length c] W fun e w' => ∃ B, e = .returned (.tuple #[.slice (some ⟨B, 0, none⟩) zs.length zs.length, .bool true]) ∧ Made W w' B (codesL zs) :=
  (icodesOf_yes W b 0 c zs hl h.1 h.2.1 hf hfu).mono fun e w' ⟨B, he, h⟩ => ⟨B, he, h.1, h.2.1, At.new h⟩

set_option maxHeartbeats 4000000 in
theorem law_yes (w : World) (a0 : Option Addr) (cap0 : Nat) (zs : List Int) (hr : Row .i64 w a0 zs) (hl : zs.length ≤ 1048576) (hf : fit zs = true) (hfu : full zs = true) :
    Calls Try.prog 5 #[.slice a0 zs.length cap0] w fun e w' => e = .returned (.bool true) ∧ Below w.heap.size w w' := by
  have hbd : decide ((1048576 : Int) < (zs.length : Int)) = false := by simp; omega
  have hcl : (codesL zs).length = zs.length := codesL_len zs
  have HR : Hid (Row .i64 w a0 zs) := hr
  have HF : Hid (fit zs = true) := hf
  have HU : Hid (full zs = true) := hfu
  have HL : Hid ((codesL zs).length = zs.length) := hcl
  clear hr hf hfu hcl
  go_enter Try.func5, Try.ntmps5
  go_wp2_with fail
  refine Calls.mono (toInt_at w a0 cap0 zs HR.out hl) ?_
  rintro e w1 ⟨rfl, k1, t1⟩
  have S1 : Hid (Kp w w1) := k1
  have T1 : Hid (At w1 w.heap.size zs) := t1
  clear k1 t1
  go_wp2_with fail
  refine Calls.mono (scodesOf_at w1 _ _ zs hl T1.out HF.out HU.out) ?_
  rintro e w2 ⟨rfl, k1, t1⟩
  have S2 : Hid (Kp w w2) := S1.out.trans k1
  have C2 : Hid (At w2 w1.heap.size (codesL zs)) := t1
  have z1 : w.heap.size ≤ w1.heap.size := S1.out.size
  clear k1 t1 S1 T1
  go_wp2_with fail
  refine Calls.mono (toInt_at w2 a0 cap0 zs (HR.out.below S2.out.1) hl) ?_
  rintro e w3 ⟨rfl, k1, t1⟩
  have S3 : Hid (Kp w w3) := S2.out.trans k1
  have C3 : Hid (At w3 w1.heap.size (codesL zs)) := C2.out.kp k1
  have X3 : Hid (At w3 w2.heap.size zs) := t1
  have z2 : w1.heap.size < w2.heap.size := C2.out.1
  clear k1 t1 C2 S2
  go_wp2_with fail
  refine Calls.mono (icodesOf_at w3 _ _ zs hl X3.out HF.out HU.out) ?_
  rintro e w4 ⟨B, rfl, k1, z3, t1⟩
  have S4 : Hid (Kp w w4) := S3.out.trans k1
  have C4 : Hid (At w4 w1.heap.size (codesL zs)) := C3.out.kp k1
  have G4 : Hid (At w4 B (codesL zs)) := t1
  have X4 : Hid (At w4 w2.heap.size zs) := X3.out.kp k1
  have z4 : w2.heap.size < B := Nat.lt_of_lt_of_le X3.out.1 z3
  clear k1 t1 C3 S3 X3 z3
  go_wp2_with fail
  refine Calls.mono (eqInt_at w4 _ _ _ _ _ (codesL zs) HL.out hl G4.out C4.out) ?_
  rintro e w5 ⟨rfl, k1⟩
  have S5 : Hid (Kp w w5) := S4.out.trans k1
  have C5 : Hid (At w5 w1.heap.size (codesL zs)) := C4.out.kp k1
  have G5 : Hid (At w5 B (codesL zs)) := G4.out.kp k1
  have X5 : Hid (At w5 w2.heap.size zs) := X4.out.kp k1
  clear k1 C4 S4 X4 G4
  go_wp2_with fail
  refine Calls.mono (toInt_at w5 a0 cap0 zs (HR.out.below S5.out.1) hl) ?_
  rintro e w6 ⟨rfl, k1, t1⟩
  have S6 : Hid (Kp w w6) := S5.out.trans k1
  have C6 : Hid (At w6 w1.heap.size (codesL zs)) := C5.out.kp k1
  have G6 : Hid (At w6 B (codesL zs)) := G5.out.kp k1
  have X6 : Hid (At w6 w2.heap.size zs) := X5.out.kp k1
  have A6 : Hid (At w6 w5.heap.size zs) := t1
  clear k1 t1 C5 S5 X5 G5
  go_wp2_with fail
  refine Calls.mono (eqInt_at w6 _ _ _ _ _ zs rfl hl X6.out A6.out) ?_
  rintro e w7 ⟨rfl, k1⟩
  have S7 : Hid (Kp w w7) := S6.out.trans k1
  have C7 : Hid (At w7 w1.heap.size (codesL zs)) := C6.out.kp k1
  have G7 : Hid (At w7 B (codesL zs)) := G6.out.kp k1
  have X7 : Hid (At w7 w2.heap.size zs) := X6.out.kp k1
  clear k1 C6 S6 X6 G6 A6
  go_wp2_with fail
  refine Calls.mono (mark_at w7 _ _ zs hl X7.out) ?_
  rintro e w8 ⟨rfl, k1, t1⟩
  have S8 : Hid (Below w.heap.size w w8) := S7.out.1.trans (k1.below.mono (by omega))
  have C8 : Hid (At w8 w1.heap.size (codesL zs)) := C7.out.sel k1 (by omega)
  have G8 : Hid (At w8 B (codesL zs)) := G7.out.sel k1 (by omega)
  clear k1 t1 C7 S7 X7 G7
  have hneg : decide ((1 : Int) + (zs.length : Int) < 0) = false := by simp; omega
  go_wp2_with fail
  refine Calls.mono (eqInt_at w8 _ _ _ _ _ (codesL zs) HL.out hl G8.out C8.out) ?_
  rintro e w9 ⟨rfl, k1⟩
  have S9 : Hid (Below w.heap.size w w9) := S8.out.trans (k1.1.mono S8.out.size)
  have C9 : Hid (At w9 w1.heap.size (codesL zs)) := C8.out.kp k1
  have G9 : Hid (At w9 B (codesL zs)) := G8.out.kp k1
  clear k1 C8 S8 G8
  go_wp2_with fail
  rw [← HL.out]
  refine Calls.mono (mark_at w9 _ _ (codesL zs) (by rw [HL.out]; exact hl) G9.out) ?_
  rintro e wA ⟨rfl, k1, t1⟩
  rw [HL.out] at t1 ⊢
  have SA : Hid (Below w.heap.size w wA) := S9.out.trans (k1.below.mono (by omega))
  have CA : Hid (At wA w1.heap.size (codesL zs)) := C9.out.sel k1 (by omega)
  have GA : Hid (At wA B (marked zs.length)) := t1
  clear k1 t1 C9 S9 G9
  have hq1 : ((1 : Int) + (zs.length : Int) != 1 + (zs.length : Int)) = false := by simp
  go_wp2_with fail
  refine Calls.mono (held_at wA _ _ zs.length hl GA.out) ?_
  rintro e wA ⟨rfl, rfl⟩
  go_wp2_with fail
  refine Calls.mono (toInt_at wA a0 cap0 zs (HR.out.below SA.out) hl) ?_
  rintro e wB ⟨rfl, k1, t1⟩
  have SB : Hid (Below w.heap.size w wB) := SA.out.trans (k1.1.mono SA.out.size)
  have CB : Hid (At wB w1.heap.size (codesL zs)) := CA.out.kp k1
  have GB : Hid (At wB B (marked zs.length)) := GA.out.kp k1
  have XB : Hid (At wB wA.heap.size zs) := t1
  clear k1 t1 CA SA GA
  go_wp2_with fail
  refine Calls.mono (icodesOf_at wB _ _ zs hl XB.out HF.out HU.out) ?_
  rintro e wC ⟨B2, rfl, k1, z5, t1⟩
  have SC : Hid (Below w.heap.size w wC) := SB.out.trans (k1.1.mono SB.out.size)
  have CC : Hid (At wC w1.heap.size (codesL zs)) := CB.out.kp k1
  have GC : Hid (At wC B (marked zs.length)) := GB.out.kp k1
  have HC : Hid (At wC B2 (codesL zs)) := t1
  clear k1 t1 CB SB GB XB z5
  go_wp2_with fail
  refine Calls.mono (eqInt_at wC _ _ _ _ _ (codesL zs) HL.out hl HC.out CC.out) ?_
  rintro e wD ⟨rfl, k1⟩
  have SD : Hid (Below w.heap.size w wD) := SC.out.trans (k1.1.mono SC.out.size)
  have GD : Hid (At wD B (marked zs.length)) := GC.out.kp k1
  clear k1 CC SC GC HC
  go_wp2_with fail
  refine Calls.mono (held_at wD _ _ zs.length hl GD.out) ?_
  rintro e wD ⟨rfl, rfl⟩
  go_wp2
  go_ret
  exact ⟨rfl, SD.out⟩

theorem eqInt_nil (W : World) : Calls Try.prog 14 #[.slice none 0 0, .slice none 0 0] W fun e w' => e = .returned (.bool true) ∧ Kp W w' := by
  refine (eqInt_any W none none 0 0 [] (by simp) (Or.inl rfl) (Or.inl rfl)).mono ?_
  rintro e w' ⟨he, q, rfl⟩
  exact ⟨he, (Kp.refl W).drewN q⟩
theorem mark_nil (W : World) : Calls Try.prog 15 #[.slice none 0 0, .int .i64 1] W fun e w' => e = .returned (.int .i64 1) ∧ w' = W := by
  go_enter Try.func15, Try.ntmps15
  go_wp2
  go_loop [1, 5] (fun k i => k = .int .i64 1 ∧ i = .int .i64 0) (fun _ _ => 0)
  case atStart => exact ⟨rfl, rfl⟩
  case round =>
    obtain ⟨rfl, rfl⟩ := hrel
    go_wp2
    go_ret
    exact ⟨rfl, rfl⟩
theorem held_nil (W : World) : Calls Try.prog 16 #[.slice none 0 0, .int .i64 1] W fun e w' => e = .returned (.int .i64 1) ∧ w' = W := by
  go_enter Try.func16, Try.ntmps16
  go_wp2
  go_loop [1, 5] (fun k i => k = .int .i64 1 ∧ i = .int .i64 0) (fun _ _ => 0)
  case atStart => exact ⟨rfl, rfl⟩
  case round =>
    obtain ⟨rfl, rfl⟩ := hrel
    go_wp2
    go_ret
    exact ⟨rfl, rfl⟩

set_option maxHeartbeats 4000000 in
theorem law_no (w : World) (a0 : Option Addr) (cap0 : Nat) (zs : List Int) (hr : Row .i64 w a0 zs) (hl : zs.length ≤ 1048576) (hn : fit zs = false ∨ (fit zs = true ∧ full zs = false)) :
    Calls Try.prog 5 #[.slice a0 zs.length cap0] w fun e w' => e = .returned (.bool true) ∧ Below w.heap.size w w' := by
  have hbd : decide ((1048576 : Int) < (zs.length : Int)) = false := by simp; omega
  have HS : Hid (∀ (W : World) (b c : Nat), At W b zs → Calls Try.prog 9 #[.slice (some ⟨b, 0, none⟩) zs.length c] W fun e w' => e = .returned (.tuple #[.slice none 0 0, .bool false]) ∧ Kp W w') := by
    intro W b c h
    rcases hn with hn | ⟨h1, h2⟩
    · exact scodesOf_no W b 0 c zs hl h.1 h.2.1 hn
    · exact scodesOf_half W b 0 c zs hl h.1 h.2.1 h1 h2
  have HI : Hid (∀ (W : World) (b c : Nat), At W b zs → Calls Try.prog 8 #[.slice (some ⟨b, 0, none⟩) zs.length c] W fun e w' => e = .returned (.tuple #[.slice none 0 0, .bool false]) ∧ Kp W w') := by
    intro W b c h
    rcases hn with hn | ⟨h1, h2⟩
    · exact icodesOf_no W b 0 c zs hl h.2.1 hn
    · exact icodesOf_half W b 0 c zs hl h.1 h.2.1 h1 h2
  have HR : Hid (Row .i64 w a0 zs) := hr
  clear hr hn
  go_enter Try.func5, Try.ntmps5
  go_wp2_with fail
  refine Calls.mono (toInt_at w a0 cap0 zs HR.out hl) ?_
  rintro e w1 ⟨rfl, k1, t1⟩
  have S1 : Hid (Kp w w1) := k1
  have T1 : Hid (At w1 w.heap.size zs) := t1
  clear k1 t1
  go_wp2_with fail
  refine Calls.mono (HS.out w1 _ _ T1.out) ?_
  rintro e w2 ⟨rfl, k1⟩
  have S2 : Hid (Kp w w2) := S1.out.trans k1
  clear k1 S1 T1
  go_wp2_with fail
  refine Calls.mono (toInt_at w2 a0 cap0 zs (HR.out.below S2.out.1) hl) ?_
  rintro e w3 ⟨rfl, k1, t1⟩
  have S3 : Hid (Kp w w3) := S2.out.trans k1
  have z2 : w.heap.size ≤ w2.heap.size := S2.out.size
  have X3 : Hid (At w3 w2.heap.size zs) := t1
  clear k1 t1 S2
  go_wp2_with fail
  refine Calls.mono (HI.out w3 _ _ X3.out) ?_
  rintro e w4 ⟨rfl, k1⟩
  have S4 : Hid (Kp w w4) := S3.out.trans k1
  have X4 : Hid (At w4 w2.heap.size zs) := X3.out.kp k1
  clear k1 S3 X3
  go_wp2_with fail
  refine Calls.mono (eqInt_nil w4) ?_
  rintro e w5 ⟨rfl, k1⟩
  have S5 : Hid (Kp w w5) := S4.out.trans k1
  have X5 : Hid (At w5 w2.heap.size zs) := X4.out.kp k1
  clear k1 S4 X4
  go_wp2_with fail
  refine Calls.mono (toInt_at w5 a0 cap0 zs (HR.out.below S5.out.1) hl) ?_
  rintro e w6 ⟨rfl, k1, t1⟩
  have S6 : Hid (Kp w w6) := S5.out.trans k1
  have X6 : Hid (At w6 w2.heap.size zs) := X5.out.kp k1
  have A6 : Hid (At w6 w5.heap.size zs) := t1
  clear k1 t1 S5 X5
  go_wp2_with fail
  refine Calls.mono (eqInt_at w6 _ _ _ _ _ zs rfl hl X6.out A6.out) ?_
  rintro e w7 ⟨rfl, k1⟩
  have S7 : Hid (Kp w w7) := S6.out.trans k1
  have X7 : Hid (At w7 w2.heap.size zs) := X6.out.kp k1
  clear k1 S6 X6 A6
  go_wp2_with fail
  refine Calls.mono (mark_at w7 _ _ zs hl X7.out) ?_
  rintro e w8 ⟨rfl, k1, t1⟩
  have S8 : Hid (Below w.heap.size w w8) := S7.out.1.trans (k1.below.mono (by omega))
  clear k1 t1 S7 X7
  have hneg : decide ((1 : Int) + (zs.length : Int) < 0) = false := by simp; omega
  go_wp2_with fail
  refine Calls.mono (eqInt_nil w8) ?_
  rintro e w9 ⟨rfl, k1⟩
  have S9 : Hid (Below w.heap.size w w9) := S8.out.trans (k1.1.mono S8.out.size)
  clear k1 S8
  go_wp2_with fail
  refine Calls.mono (mark_nil w9) ?_
  rintro e w9 ⟨rfl, rfl⟩
  go_wp2_with fail
  refine Calls.mono (held_nil w9) ?_
  rintro e w9 ⟨rfl, rfl⟩
  go_wp2_with fail
  refine Calls.mono (toInt_at w9 a0 cap0 zs (HR.out.below S9.out) hl) ?_
  rintro e wB ⟨rfl, k1, t1⟩
  have SB : Hid (Below w.heap.size w wB) := S9.out.trans (k1.1.mono S9.out.size)
  have XB : Hid (At wB w9.heap.size zs) := t1
  clear k1 t1 S9
  go_wp2_with fail
  refine Calls.mono (HI.out wB _ _ XB.out) ?_
  rintro e wC ⟨rfl, k1⟩
  have SC : Hid (Below w.heap.size w wC) := SB.out.trans (k1.1.mono SB.out.size)
  clear k1 SB XB
  go_wp2_with fail
  refine Calls.mono (eqInt_nil wC) ?_
  rintro e wD ⟨rfl, k1⟩
  have SD : Hid (Below w.heap.size w wD) := SC.out.trans (k1.1.mono SC.out.size)
  clear k1 SC
  go_wp2_with fail
  refine Calls.mono (held_nil wD) ?_
  rintro e wD ⟨rfl, rfl⟩
  go_wp2
  go_ret
  exact ⟨rfl, SD.out⟩
end Go.Proofs.Ytakdmgnkcpahbaa

namespace Go.Proofs.Ytakdmgnkcpahbaa.fnExactCodesOf
open Go.ChangeShapes Go.WideShapes Go.ChangeAt Go.RowKit
open Go.ChangeMaps (open_string shut_string)
set_option linter.unusedVariables false

theorem own : ownKnob Try.prog.godebug = none := by kernel_rfl
theorem laidOut : laidOutB Try.prog = true := by kernel_rfl

/-- WHAT THE WALK IS TOLD OF A SLICE OF INTEGERS THAT CAME IN: it is nil; or it leads to a row of 'cap' cells, the numbers 'zs' (the first 'len' are its elements, the rest its spare room), each fitting its kind. -/
def IsRow (k : IntKind) (w : World) (a : Option Addr) (len cap : Nat) (zs : List Int) : Prop :=
  (a = none ∧ len = 0 ∧ cap = 0 ∧ zs = []) ∨
  ∃ x, a = some x ∧ len ≤ cap ∧ cap ≤ maxLen ∧ zs.length = cap ∧ (∀ i, i < zs.length → w.cell? (x.add i) = some (.int k (zs.getD i 0))) ∧ ∀ n ∈ zs, (Lit.int k n).wf = true

theorem row_of {k : IntKind} {w : World} {a : Option Addr} {len cap : Nat} {z : List Int} (h : IsRow k w a len cap z) : Row k w a (z.take len) ∧ (z.take len).length = len := by
  rcases h with ⟨_, h, _, h2⟩ | ⟨x, rfl, hl, hm, hz, hcell, hwz⟩
  · subst h; exact ⟨Or.inl rfl, rfl⟩
  · by_cases h0 : len = 0
    · subst h0; exact ⟨Or.inl rfl, rfl⟩
    · obtain ⟨b, off, spot⟩ := x
      have hc := hcell 0 (by omega)
      have hspot : spot = none := by simpa [Addr.add] using World.cell?_spot hc
      subst hspot
      refine ⟨Or.inr ⟨b, off, rfl, World.block_lt_of_cell? w _ hc, fun i hi => ?_⟩, by simp; omega⟩
      have hi' : i < len := by simp at hi; omega
      have hci := hcell i (by omega)
      have e1 : (z.take len).getD i 0 = z.getD i 0 := by simp [hi']
      rw [e1, ← hci]
      congr 1
      by_cases h00 : i = 0
      · subst h00; simp [Addr.add]
      · simp [Addr.add, h00]

/-! ### STEP 1: THE WALK: the Go text returns true, AND WRITES NOTHING THAT WAS THERE: 'Below w.heap.size w w'' (Derived/Below.lean: '.refl', '.alloc', '.drew', '.setCell' at a new block, '.trans'). Open each 'IsRow' by 'rcases' AHEAD of 'go_enter'; part every test ahead of the walk. -/
theorem walk (a0 : Option Addr) (len0 cap0 : Nat) (z0 : List Int) (w : World) (w0 : IsRow .i64 w a0 len0 cap0 z0) :
    Calls Try.prog 5 #[.slice a0 len0 cap0] w fun e w' => e = .returned (.bool true) ∧ Below w.heap.size w w' := by
  obtain ⟨hrow, hlen⟩ := row_of w0
  have hlm : len0 ≤ maxLen := by
    rcases w0 with ⟨_, h, _, _⟩ | ⟨x, _, hl, hm, _, _, _⟩
    · omega
    · omega
  unfold maxLen at hlm
  clear w0
  generalize z0.take len0 = zs at *
  subst hlen
  by_cases hbig : 1048576 < (zs.length : Int)
  · go_enter Try.func5, Try.ntmps5
    go_wp2
    go_ret
    exact ⟨rfl, Below.refl _ _⟩
  · by_cases hf : fit zs = true
    · by_cases hfu : full zs = true
      · exact law_yes w a0 cap0 zs hrow (by omega) hf hfu
      · exact law_no w a0 cap0 zs hrow (by omega) (Or.inr ⟨hf, by simpa using hfu⟩)
    · exact law_no w a0 cap0 zs hrow (by omega) (Or.inl (by simpa using hf))

/-! ### THE ROW's STEP: WRITTEN OUT: LEAVE IT -/
set_option maxRecDepth 100000 in
theorem lifted (os : Os) (started : os.Started) (H : Type) (enc : TypeId × Value → H) :
    ReturnsInHanded {} Try.checked os 5 .any (Rows.fnExactCodesOfSpec.pre6 enc Try.prog Try.f5 Rows.fnExactCodesOfRow.domain false) (Rows.fnExactCodesOfSpec.post enc Try.prog Try.f5 false true false false) := by
  refine returnsInHanded_of_change (C := Try.checked) own started (by kernel_rfl) Try.func5
    (ChangeSpec.witness6 (enc := enc) (C := Try.checked) false ⟨#[], #[.slice none 0 0], []⟩ 8 (by kernel_rfl) (by kernel_rfl) (by kernel_rfl) (by kernel_rfl)) ?_
  intro W base args ds gs before hval0 hW hcnd _
  have hval : ∀ (j : Nat) t v, Try.f5.params[j]? = some t → args[j]? = some v → Value.okWide Try.prog W .any base t v := hval0
  have hW' := hW
  obtain ⟨p, q, hA0, hV, rfl, hfz, hnd⟩ := hW
  have hA : DataW.TrodAll enc Try.prog W 0 (fun _ => true) true Try.f5.params.toList args.toList ds p := hA0
  rw [Try.params5] at hA hval
  obtain ⟨v0, vs0, d0, ds0, p0, q0, hargs, rfl, rfl, h0, r0⟩ := trodAll_cons hA
  obtain ⟨rfl, rfl, rfl⟩ := trodAll_nil r0
  obtain rfl : args = #[v0] := by cases args; simp_all
  obtain ⟨rfl, rfl⟩ := trodVars_none hV
  obtain ⟨a0, len0, cap0, rfl⟩ := okWide_slice Try.underlying23 (hval 0 23 v0 rfl rfl)
  have k0 := h0
  have lt0 : ∀ x ∈ p0, x.block < W.heap.size := by obtain ⟨m, hm⟩ := k0; exact DataW.trod_lt m _ _ _ hm
  obtain ⟨z0, w0⟩ : ∃ zs, IsRow .i64 W a0 len0 cap0 zs := by
    obtain ⟨fuel, hf⟩ := h0
    rcases open_ints Try.underlying23 Try.underlying3 (by kernel_rfl) hf with ⟨hcs, _⟩ | ⟨x, l, c, zs, hcs, _, hl, hm, hz, _, hcell, hwz⟩
    · simp [Value.cells] at hcs
      obtain ⟨rfl, rfl, rfl⟩ := hcs
      exact ⟨[], .inl ⟨rfl, rfl, rfl, rfl⟩⟩
    · simp [Value.cells] at hcs
      obtain ⟨rfl, rfl, rfl⟩ := hcs
      exact ⟨zs, .inr ⟨_, rfl, hl, hm, by simpa using hz, hcell, hwz⟩⟩
  clear hA0 hval0
  refine (walk a0 len0 cap0 z0 W w0).mono fun e W' ⟨he, bel⟩ => ?_
  subst he
  exact ⟨_, rfl, _, _, _, [], _, [], hW', trodAll_mk1 (shut_bool Try.underlying4 _), (trodAll_cons_mk (Below.trod laidOut (by kernel_rfl) (of_decide_eq_true (by kernel_rfl)) k0 bel lt0) trodAll_mk0), rfl, bel.frame _, fun h => by cases h⟩

theorem over : Rows.fnExactCodesOfRow.holds Try.pinned (OpenSpec.ofChange Rows.fnExactCodesOfSpec) :=
  OpenClaim.holds_of_wide 5 Try.f5 rfl rfl rfl rfl rfl rfl rfl ⟨rfl, rfl, rfl, rfl, rfl⟩ rfl rfl rfl rfl rfl (by kernel_rfl) Try.func5 (by kernel_rfl)
    (of_decide_eq_true (by kernel_rfl)) (by unfold Func.isWrapper; first | (rw [if_pos (by decide +kernel)]; kernel_rfl) | (rw [if_neg (by decide +kernel)]; exact ⟨rfl, rfl⟩))
    (fun os started H enc _ => lifted os started H enc)

/-- ████ THE STATEMENT ████ -/
theorem proved : Rows.FnExactCodesOfSaid := over
#print axioms proved
end Go.Proofs.Ytakdmgnkcpahbaa.fnExactCodesOf
