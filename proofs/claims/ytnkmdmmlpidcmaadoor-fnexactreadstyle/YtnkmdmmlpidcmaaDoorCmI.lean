/-
  A text without its comments, by the program; each theorem names its conditions.
-/
import Derived.Test.YtnkmdmmlpidcmaaDoorCmP
import Derived.Test.YtnkmdmmlpidcmaaDoorBlS
namespace Go.Proofs.YtnkmdmmlpidcmaaDoor
open Go.ChangeShapes Go.WideShapes Go.ChangeAt Go.RowKit
set_option linter.unusedVariables false

/-- The library's own number holds an integer. -/
def MaxL (w : World) : Prop := ∃ m, w.cell? ⟨0, 0, none⟩ = some (.int .i64 m)
theorem MaxL.low {w w' : World} {B : Nat} (h : MaxL w) (k : Below B w w') (hB : 0 < B) : MaxL w' := by
  obtain ⟨m, hm⟩ := h
  exact ⟨m, (Below.cell k (p := ⟨0, 0, none⟩) hB).trans hm⟩
theorem MaxL.lt {w : World} (h : MaxL w) : 0 < w.heap.size := by
  obtain ⟨m, hm⟩ := h
  exact World.block_lt_of_cell? w ⟨0, 0, none⟩ hm
theorem MaxL.nw {w w' : World} (h : MaxL w) (k : Nw w w') : MaxL w' := h.low k h.lt
/-- What Cut answers at two bytes. -/
def cutW (x y : UInt8) (s : ByteArray) : Value := match cut2 x y s.data.toList with | some (p, q) => .tuple #[.string (bA p), .string (bA q), .bool true] | none => .tuple #[.string s, .string ⟨#[]⟩, .bool false]
theorem cut2i (x y : UInt8) (s : ByteArray) (w : World) (hm : MaxL w) (hs : s.size ≤ 1048576) :
    Calls Tryd.prog 56 #[.string s, .string ⟨#[x, y]⟩] w fun e w' => e = .returned (cutW x y s) ∧ ∃ n, w' = w.drewN n := by
  obtain ⟨m, hm⟩ := hm
  refine (Tryd.strings_Cut s ⟨#[x, y]⟩ m w (by omega) hm).mono ?_
  rintro e w' ⟨rfl, h⟩
  refine ⟨?_, h⟩
  have e1 : (⟨#[x, y]⟩ : ByteArray).data.toList = [x, y] := rfl
  rw [e1, cut_cut2]
  unfold cutW
  cases cut2 x y s.data.toList with
  | none => simp
  | some z => obtain ⟨p, q⟩ := z; rfl
theorem app_bA (t : ByteArray) (l : List UInt8) : (t ++ bA l).data.toList = t.data.toList ++ l := by simp [bA]
theorem below_drewN {B : Nat} {w w' : World} (h : Below B w w') (n : Nat) : Below B w (w'.drewN n) := ⟨h.os, h.tape, h.output, h.size, h.block⟩
theorem Bld.drewN {B b : Nat} {t : ByteArray} {w : World} (h : Bld B b t w) (n : Nat) : Bld B b t (w.drewN n) := h
set_option maxHeartbeats 4000000 in
theorem iwithout (s : ByteArray) (w : World) (hm : MaxL w) (hs : s.size ≤ 1048576) :
    Calls Tryd.prog 28 #[.string s] w fun e w' => e = .returned (.string (bareB s)) ∧ Nw w w' := by
  have HM : Hid (MaxL w) := hm
  have HLT : Hid (0 < w.heap.size) := hm.lt
  clear hm
  have HF : Hid _ := Bld.fresh w
  go_enter Tryd.func28, Tryd.ntmps28
  go_wp2
  go_loopw [0] (fun v wr => ∃ r acc : ByteArray, v = .string r ∧ Bld w.heap.size w.heap.size acc wr ∧ Below w.heap.size w wr ∧ r.size ≤ s.size ∧ acc.data.toList ++ bareL r.data.toList = bareL s.data.toList) (fun v _ => Lib.strSize v)
  case atStart => exact ⟨s, ⟨#[]⟩, rfl, HF.out, (Below.refl _ _).alloc (Nat.le_refl _) _, Nat.le_refl _, rfl⟩
  case round =>
    obtain ⟨r, acc, rfl, hb, hw, hrs, hbr⟩ := hrel
    have HB : Hid (Bld w.heap.size w.heap.size acc wr) := hb
    have HW : Hid (Below w.heap.size w wr) := hw
    have hac : acc.size ≤ 1048576 := by
      have h1 := congrArg List.length hbr
      have h2 := bareL_len _ s.data.toList (Nat.le_refl _)
      rw [List.length_append, data_len] at h1
      rw [data_len] at h2
      omega
    have HMW : Hid (MaxL wr) := HM.out.low hw HLT.out
    have HWS : Hid (w.heap.size ≤ wr.heap.size) := Below.size hw
    clear hb hw
    have hr2 : r.size ≤ 1048576 := by omega
    cases hc : cut2 47 42 r.data.toList with
    | none =>
      have HC : Hid (cutW 47 42 r = .tuple #[.string r, .string ⟨#[]⟩, .bool false]) := by show cutW 47 42 r = _; unfold cutW; rw [hc]
      have HR : Hid (acc ++ r = bareB s) := by
        show _ = _
        rw [bareL_miss hc] at hbr
        unfold bareB
        rw [← hbr, ← bA_data (acc ++ r)]
        congr 1
        try simp
      clear hc hbr
      go_wp2_with fail
      refine Calls.mono (cut2i 47 42 r _ HMW.out hr2) ?_
      rw [HC.out]
      rintro e w1 ⟨rfl, n1, rfl⟩
      go_wp2_with fail
      refine Calls.mono (writeString w.heap.size w.heap.size acc r _ (HB.out.drewN n1) (by omega) HWS.out) ?_
      rintro e w2 ⟨rfl, b2, k2⟩
      have HB2 : Hid (Bld w.heap.size w.heap.size (acc ++ r) w2) := b2
      have HW2 : Hid (Below w.heap.size w w2) := Below.trans (below_drewN HW.out n1) k2
      clear b2 k2
      go_wp2_with fail
      refine Calls.mono (bld_string w.heap.size w.heap.size (acc ++ r) _ HB2.out (Below.size HW2.out)) ?_
      rintro e w3 ⟨rfl, k3⟩
      have HW3 : Hid (Below w.heap.size w w3) := Below.trans HW2.out k3
      clear k3
      go_wp2
      go_ret
      exact ⟨by rw [HR.out]; rfl, HW3.out⟩
    | some z =>
      obtain ⟨p, q⟩ := z
      have HC : Hid (cutW 47 42 r = .tuple #[.string (bA p), .string (bA q), .bool true]) := by show cutW 47 42 r = _; unfold cutW; rw [hc]
      have hl := cut2_len hc
      rw [data_len] at hl
      have hsk := skipC_len q
      have hp : (bA p).size ≤ 1048576 := by rw [bA_size]; omega
      have hq : (bA q).size ≤ 1048576 := by rw [bA_size]; omega
      have HC2 : Hid (∃ (x : ByteArray) (b : Bool), cutW 42 47 (bA q) = .tuple #[.string x, .string (bA (skipC q)), .bool b]) := by
        show ∃ _ _, _
        unfold cutW skipC
        rw [bA_list]
        cases cut2 42 47 q with
        | none => exact ⟨_, _, rfl⟩
        | some z => obtain ⟨p2, q2⟩ := z; exact ⟨_, _, rfl⟩
      have HSZ : Hid ((bA (skipC q)).size + 2 ≤ r.size) := by show _ ≤ _; rw [bA_size]; omega
      have HR : Hid (((acc ++ bA p) ++ ⟨#[32]⟩).data.toList ++ bareL (bA (skipC q)).data.toList = bareL s.data.toList) := by
        show _ = _
        rw [← hbr, bareL_hit hc, bA_list]
        simp [bA]
      clear hc hbr hl hsk
      generalize bA (skipC q) = R2 at *
      generalize bA p = P at *
      generalize bA q = Q at *
      have hRs := HSZ.out
      have hap : (acc ++ P).size ≤ 100000000 := by simp; omega
      go_wp2_with fail
      refine Calls.mono (cut2i 47 42 r _ HMW.out hr2) ?_
      rw [HC.out]
      rintro e w1 ⟨rfl, n1, rfl⟩
      go_wp2_with fail
      refine Calls.mono (writeString w.heap.size w.heap.size acc P _ (HB.out.drewN n1) (by omega) HWS.out) ?_
      rintro e w2 ⟨rfl, b2, k2⟩
      have HB2 : Hid (Bld w.heap.size w.heap.size (acc ++ P) w2) := b2
      have HW2 : Hid (Below w.heap.size w w2) := Below.trans (below_drewN HW.out n1) k2
      clear b2 k2
      go_wp2_with fail
      refine Calls.mono (writeByte w.heap.size w.heap.size (acc ++ P) 32 _ HB2.out hap (Below.size HW2.out)) ?_
      rintro e w3 ⟨rfl, b3, k3⟩
      have HB3 : Hid (Bld w.heap.size w.heap.size ((acc ++ P) ++ ⟨#[32]⟩) w3) := b3
      have HW3 : Hid (Below w.heap.size w w3) := Below.trans HW2.out k3
      clear b3 k3
      obtain ⟨x2, b2, hC2⟩ := HC2.out
      have HC3 : Hid (cutW 42 47 Q = .tuple #[.string x2, .string R2, .bool b2]) := hC2
      clear hC2 HC2
      go_wp2_with fail
      refine Calls.mono (cut2i 42 47 Q _ (HM.out.low HW3.out HLT.out) hq) ?_
      rw [HC3.out]
      rintro e w4 ⟨rfl, n4, rfl⟩
      go_wp2
      go_roundw
      case rel => exact ⟨R2, _, rfl, HB3.out.drewN n4, below_drewN HW3.out n4, by omega, HR.out⟩
      case measure => simp [Lib.strSize]; omega
end Go.Proofs.YtnkmdmmlpidcmaaDoor
