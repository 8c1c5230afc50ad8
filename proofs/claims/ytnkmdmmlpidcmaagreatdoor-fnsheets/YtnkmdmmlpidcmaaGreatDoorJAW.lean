/-
  A text's builder of the library: its look at a copy, its writers; each theorem names its conditions.
  What a builder answers; each theorem names its conditions.
  A text without its comments, by the program; each theorem names its conditions.
  A sheet read by the program; each theorem names its conditions.
-/
import Derived.Test.YtnkmdmmlpidcmaaGreatDoorJAB
import Derived.Shelf.Strings.BuilderK
import Derived.OwnWalk
import Derived.Handy
import Derived.Test.YtnkmdmmlpidcmaaGreatDoorJAN
import Derived.Test.YtnkmdmmlpidcmaaGreatDoorJAJ
import Derived.Test.YtnkmdmmlpidcmaaGreatDoorJAV
namespace Go.Proofs.YtnkmdmmlpidcmaaGreatDoor
open Go.ChangeShapes Go.WideShapes Go.ChangeAt Go.RowKit
set_option linter.unusedVariables false

theorem bld_info : ∃ j, Tryz.prog.info? 106 = some j ∧ j.size = 2 := Option.map_eq_some_iff.1 (by kernel_rfl : (Tryz.prog.info? 106).map (fun i => i.size) = some 2)
theorem byte_info : ∃ i, Tryz.prog.info? 5 = some i ∧ i.zero = some (.int .u8 0) ∧ i.size = 1 ∧ i.bytes = 1 := by
  have h : (Tryz.prog.info? 5).map (fun i => (i.zero, i.size, i.bytes)) = some (some (.int .u8 0), 1, 1) := by kernel_rfl
  obtain ⟨i, hi, hzz⟩ := Option.map_eq_some_iff.1 h
  simp only [Prod.mk.injEq] at hzz
  exact ⟨i, hi, hzz⟩
set_option maxHeartbeats 1000000 in
set_option maxRecDepth 100000 in
theorem copyCheck_used (b : Nat) (w : World) (h0 : w.cell? ⟨b, 0, none⟩ = some (.pointer (some ⟨b, 0, none⟩))) :
    Calls Tryz.prog 109 #[.pointer (some ⟨b, 0, none⟩)] w fun e w' => e = .returned (.tuple #[]) ∧ w' = w := by
  obtain ⟨j, hj, _⟩ := bld_info
  have t70 : Tryz.prog.underlying 104 = some (.pointer 106) := Tryz.underlying104
  go_enter Tryz.func109, Tryz.ntmps109
  go_wp2
  rw [Lib.run_neq_ptr_same w _ t70 hj]
  go_wp2
  go_end0
  exact ⟨rfl, rfl⟩
set_option maxHeartbeats 1000000 in
set_option maxRecDepth 100000 in
theorem copyCheck_fresh (b : Nat) (w : World) (h0 : w.cell? ⟨b, 0, none⟩ = some (.pointer none)) (hsh : w.shape? b = some (106, 2)) (hfz : w.frozen? ⟨b, 0, none⟩ = false) :
    Calls Tryz.prog 109 #[.pointer (some ⟨b, 0, none⟩)] w fun e w' => e = .returned (.tuple #[]) ∧ w' = w.setCell ⟨b, 0, none⟩ (.pointer (some ⟨b, 0, none⟩)) := by
  obtain ⟨j, hj, hjs⟩ := bld_info
  have t70 : Tryz.prog.underlying 104 = some (.pointer 106) := Tryz.underlying104
  have t164 : Tryz.prog.underlying 166 = some .unsafePointer := Tryz.underlying166
  go_enter Tryz.func109, Tryz.ntmps109
  go_wp2
  rw [Lib.run_to_unsafe w ⟨b, 0, none⟩ t70 t164 hj (by rw [hjs]; decide) hsh (Nat.zero_lt_succ 1)]
  simp only [Result.andThen]
  rw [Oper.upon_value]
  go_wp2
  rw [run_callFunc_extern Tryz.func150 (by kernel_rfl) (by kernel_rfl) (by kernel_rfl) (e := Extern.AbiNoEscape.same) (by kernel_rfl)]
  rw [Lib.run_noEscape]
  simp only [Result.andThen]
  rw [Oper.upon_value]
  go_wp2
  rw [Lib.run_from_unsafe w ⟨b, 0, none⟩ t164 t70 hj hsh (by kernel_rfl)]
  simp only [Result.andThen]
  rw [Oper.upon_value]
  go_wp2
  go_end0
  exact ⟨rfl, rfl⟩
/-- The builder in the block b holds the text t. -/
def Bld (B b : Nat) (t : ByteArray) (w : World) : Prop := Lib.IsBuilderF 106 5 B b (Lib.strCells t) w
theorem Bld.fresh (w : World) : Bld w.heap.size w.heap.size ⟨#[]⟩ (w.alloc (.cells #[.pointer none, .slice none 0 0] 106)) :=
  Lib.IsBuilderF.of (Lib.fresh_isBuilder _ _ w)
theorem copyCheck_any (B b : Nat) (bs : List Value) (w : World) (h : Lib.IsBuilderF 106 5 B b bs w) :
    Calls Tryz.prog 109 #[.pointer (some ⟨b, 0, none⟩)] w fun e w' => e = .returned (.tuple #[]) ∧ Lib.BuilderAtF 106 5 B b (.pointer (some ⟨b, 0, none⟩)) bs w' ∧ Below B w w' := by
  rcases h with h | h
  · refine (copyCheck_fresh b w h.cell0 h.shape h.frozen0).mono ?_
    rintro e w' ⟨rfl, rfl⟩
    exact ⟨rfl, h.used _, (Below.refl B w).setCell (p := ⟨b, 0, none⟩) h.1 _⟩
  · refine (copyCheck_used b w h.cell0).mono ?_
    rintro e w' ⟨rfl, rfl⟩
    exact ⟨rfl, h, Below.refl B _⟩
theorem strCells_app (s t : ByteArray) : Lib.strCells (s ++ t) = Lib.strCells s ++ Lib.strCells t := by simp [Lib.strCells]
set_option maxHeartbeats 2000000 in
set_option maxRecDepth 100000 in
theorem writeString (B b : Nat) (t s : ByteArray) (w : World) (h : Bld B b t w) (hlen : t.size + s.size ≤ 100000000) (hBw : B ≤ w.heap.size) :
    Calls Tryz.prog 70 #[.pointer (some ⟨b, 0, none⟩), .string s] w fun e w' => e = .returned (.tuple #[.int .i64 s.size, .nilIface]) ∧ Bld B b (t ++ s) w' ∧ Below B w w' := by
  obtain ⟨i0, hi, hz0, hz1, hz2⟩ := byte_info
  have hu : Tryz.prog.underlying 9 = some .string := Tryz.underlying9
  unfold Bld at h
  go_enter Tryz.func70, Tryz.ntmps70
  go_wp2_with (go_at_call 109; refine (copyCheck_any B b _ _ h).mono ?_)
  rintro e w1 ⟨rfl, h1, hb1⟩
  obtain ⟨hB, v, hbk, hown, hne⟩ := h1
  have c0 : w1.cell? ⟨b, 0, none⟩ = some (.pointer (some ⟨b, 0, none⟩)) := by rw [Lib.cell_of_heap hbk]; rfl
  have c1 : w1.cell? ⟨b, 1, none⟩ = some v := by rw [Lib.cell_of_heap hbk]; rfl
  go_wp2_with (at_builtin; refine Lib.wpList_append_own_stringF _ rfl _ _ 22 9 rfl B 5 i0 Tryz.underlying22 hu hi hz0 hz1 hz2 _ _ _ rfl hown s rfl ?c3 ?c4 ?c5 ?_)
  case c3 => rw [Lib.strCells_length]; unfold maxLen; omega
  case c4 => rw [Lib.strCells_length]; omega
  case c5 => have := hb1.size; omega
  intro v' w2 hown' hgrow _
  have hlt : b < w1.heap.size := by
    rcases Nat.lt_or_ge b w1.heap.size with h' | h'
    · exact h'
    · simp [Array.getElem?_eq_none h'] at hbk
  have hb2 : w2.heap[b]? = some (.cells #[.pointer (some ⟨b, 0, none⟩), v] 106 (0, 0)) := by
    rw [hgrow.block b hlt (fun e => hne e.symm)]
    exact hbk
  have d0 : w2.cell? ⟨b, 0, none⟩ = some (.pointer (some ⟨b, 0, none⟩)) := by rw [Lib.cell_of_heap hb2]; rfl
  have d1 : w2.cell? ⟨b, 1, none⟩ = some v := by rw [Lib.cell_of_heap hb2]; rfl
  have f1 : w2.frozen? ⟨b, 1, none⟩ = false := Lib.frozen_of_heap hb2 1
  obtain ⟨ao, n', cap, rfl⟩ : ∃ ao n' cap, v' = .slice ao n' cap := by
    rcases hown'.2 with ⟨hv, _⟩ | ⟨g, cap, cur, fz, hv, _⟩
    · exact ⟨_, _, _, hv⟩
    · exact ⟨_, _, _, hv⟩
  go_wp2
  go_ret2
  refine ⟨rfl, ?_, ?_⟩
  · unfold Bld
    rw [strCells_app]
    exact Or.inr (Lib.BuilderAtF.put (T := 106) (e := 5) hB hb2 (bs' := Lib.strCells t ++ Lib.strCells s) (by simpa [Lib.strCells_length] using hown') (by decide))
  · exact (hb1.grown hgrow (by have := hb1.size; omega) (fun k hk => (hown.lt k hk).1)).setCell (p := ⟨b, 1, none⟩) hB _
set_option maxHeartbeats 2000000 in
set_option maxRecDepth 100000 in
theorem writeByte (B b : Nat) (t : ByteArray) (c : UInt8) (w : World) (h : Bld B b t w) (hlen : t.size ≤ 100000000) (hBw : B ≤ w.heap.size) :
    Calls Tryz.prog 72 #[.pointer (some ⟨b, 0, none⟩), .int .u8 c.toNat] w fun e w' => e = .returned .nilIface ∧ Bld B b (t ++ ⟨#[c]⟩) w' ∧ Below B w w' := by
  obtain ⟨i0, hi, hz0, hz1, hz2⟩ := byte_info
  unfold Bld at h
  go_enter Tryz.func72, Tryz.ntmps72
  go_wp2_with (go_at_call 109; refine (copyCheck_any B b _ _ h).mono ?_)
  rintro e w1 ⟨rfl, h1, hb1⟩
  obtain ⟨hB, v, hbk, hown, hne⟩ := h1
  have c0 : w1.cell? ⟨b, 0, none⟩ = some (.pointer (some ⟨b, 0, none⟩)) := by rw [Lib.cell_of_heap hbk]; rfl
  have c1 : w1.cell? ⟨b, 1, none⟩ = some v := by rw [Lib.cell_of_heap hbk]; rfl
  go_wp2_with (at_builtin; refine wpList_append_ownF _ rfl _ _ 22 rfl B 5 i0 (.int .u8 0) 1 1 Tryz.underlying22 hi hz0 hz1 hz2 rfl (by decide) _ _ _ rfl (hown.alloc _) ⟨w1.heap.size, 0, none⟩ 1 1 [.int .u8 c.toNat] rfl rfl ?c1 ?c2 ?c3 ?c4 ?c5 ?_)
  case c1 =>
    intro j u hj
    match j, hj with
    | 0, hj => simp at hj; subst hj; simp [Addr.add]
  case c2 => intro u hu; simp at hu; subst hu; rfl
  case c3 => rw [Lib.strCells_length]; unfold maxLen; omega
  case c4 => rw [Lib.strCells_length]; omega
  case c5 => have := hb1.size; simp; omega
  intro v' w2 hown' hgrow _
  have hlt : b < w1.heap.size := by
    rcases Nat.lt_or_ge b w1.heap.size with h' | h'
    · exact h'
    · simp [Array.getElem?_eq_none h'] at hbk
  have hb2 : w2.heap[b]? = some (.cells #[.pointer (some ⟨b, 0, none⟩), v] 106 (0, 0)) := by
    rw [hgrow.block b (by simp; omega) (fun e => hne e.symm), Lib.alloc_old w1 _ b hlt]
    exact hbk
  have d0 : w2.cell? ⟨b, 0, none⟩ = some (.pointer (some ⟨b, 0, none⟩)) := by rw [Lib.cell_of_heap hb2]; rfl
  have d1 : w2.cell? ⟨b, 1, none⟩ = some v := by rw [Lib.cell_of_heap hb2]; rfl
  have f1 : w2.frozen? ⟨b, 1, none⟩ = false := Lib.frozen_of_heap hb2 1
  obtain ⟨g, cap, rfl⟩ : ∃ g cap, v' = .slice (some ⟨g, 0, none⟩) ((Lib.strCells t).length + 1) cap := by
    rcases hown'.2 with ⟨_, h0⟩ | ⟨g, cap, cur, fz, hv, _⟩
    · omega
    · exact ⟨g, cap, hv⟩
  go_wp2
  go_ret
  have e1 : Lib.strCells ⟨#[c]⟩ = [.int .u8 c.toNat] := by simp [Lib.strCells]
  refine ⟨rfl, ?_, ?_⟩
  · unfold Bld
    rw [strCells_app, e1]
    exact Or.inr (Lib.BuilderAtF.put (T := 106) (e := 5) hB hb2 (bs' := Lib.strCells t ++ [.int .u8 c.toNat]) (by simpa using hown') (by decide))
  · exact ((hb1.alloc (by have := hb1.size; omega) _).grown hgrow (by have := hb1.size; simp; omega) (fun k hk => (hown.lt k hk).1)).setCell (p := ⟨b, 1, none⟩) hB _
end Go.Proofs.YtnkmdmmlpidcmaaGreatDoor
namespace Go.Proofs.YtnkmdmmlpidcmaaGreatDoor
open Go.ChangeShapes Go.WideShapes Go.ChangeAt Go.RowKit
set_option linter.unusedVariables false

theorem bld_string (B b : Nat) (t : ByteArray) (w : World) (h : Bld B b t w) (hBw : B ≤ w.heap.size) :
    Calls Tryz.prog 71 #[.pointer (some ⟨b, 0, none⟩)] w fun e w' => e = .returned (.string t) ∧ Below B w w' := by
  have e1 : Lib.byteCells t.data.toList = Lib.strCells t := by simp [Lib.byteCells, Lib.strCells]
  refine (Any.Builder_String_any_k Tryz.lays169 Tryz.Builder_Extra_169 B b t.data.toList w (by rw [e1]; exact h) hBw).mono ?_
  rintro e w' ⟨rfl, _, h2, _⟩
  exact ⟨by simp, h2⟩
theorem Bld.alloc {B b : Nat} {t : ByteArray} {w : World} (h : Bld B b t w) (o : Obj) : Bld B b t (w.alloc o) := h.elim (fun x => .inl (x.alloc o)) (fun x => .inr (x.alloc o))
end Go.Proofs.YtnkmdmmlpidcmaaGreatDoor
namespace Go.Proofs.YtnkmdmmlpidcmaaGreatDoor
open Go.ChangeShapes Go.WideShapes Go.ChangeAt Go.RowKit
set_option linter.unusedVariables false

/-- The library's own number holds an integer. -/
def MaxL (w : World) : Prop := ∃ m, w.cell? ⟨0, 0, none⟩ = some (.int .i64 m)
theorem MaxL.low {w w' : World} {B : Nat} (h : MaxL w) (k : Below B w w') (hB : 0 < B) : MaxL w' := by
  obtain ⟨m, hm⟩ := h
  exact ⟨m, (Below.cell k (p := ⟨0, 0, none⟩) hB).trans hm⟩
theorem MaxL.lt {w : World} (h : MaxL w) : 0 < w.heap.size := by
  obtain ⟨m, hm⟩ := h
  exact World.block_lt_of_cell? w ⟨0, 0, none⟩ hm
theorem MaxL.nw {w w' : World} (h : MaxL w) (k : Nw w w') : MaxL w' := h.low k h.lt
/-- What Cut answers at two bytes. -/
def cutW (x y : UInt8) (s : ByteArray) : Value := match cut2 x y s.data.toList with | some (p, q) => .tuple #[.string (bA p), .string (bA q), .bool true] | none => .tuple #[.string s, .string ⟨#[]⟩, .bool false]
theorem cut2i (x y : UInt8) (s : ByteArray) (w : World) (hm : MaxL w) (hs : s.size ≤ 1048576) :
    Calls Tryz.prog 67 #[.string s, .string ⟨#[x, y]⟩] w fun e w' => e = .returned (cutW x y s) ∧ ∃ n, w' = w.drewN n := by
  obtain ⟨m, hm⟩ := hm
  refine (Tryz.strings_Cut s ⟨#[x, y]⟩ m w (by omega) hm).mono ?_
  rintro e w' ⟨rfl, h⟩
  refine ⟨?_, h⟩
  have e1 : (⟨#[x, y]⟩ : ByteArray).data.toList = [x, y] := rfl
  rw [e1, cut_cut2]
  unfold cutW
  cases cut2 x y s.data.toList with
  | none => simp
  | some z => obtain ⟨p, q⟩ := z; rfl
theorem app_bA (t : ByteArray) (l : List UInt8) : (t ++ bA l).data.toList = t.data.toList ++ l := by simp [bA]
theorem below_drewN {B : Nat} {w w' : World} (h : Below B w w') (n : Nat) : Below B w (w'.drewN n) := ⟨h.os, h.tape, h.output, h.size, h.block⟩
theorem Bld.drewN {B b : Nat} {t : ByteArray} {w : World} (h : Bld B b t w) (n : Nat) : Bld B b t (w.drewN n) := h
set_option maxHeartbeats 4000000 in
theorem iwithout (s : ByteArray) (w : World) (hm : MaxL w) (hs : s.size ≤ 1048576) :
    Calls Tryz.prog 32 #[.string s] w fun e w' => e = .returned (.string (bareB s)) ∧ Nw w w' := by
  have HM : Hid (MaxL w) := hm
  have HLT : Hid (0 < w.heap.size) := hm.lt
  clear hm
  have HF : Hid _ := Bld.fresh w
  go_enter Tryz.func32, Tryz.ntmps32
  go_wp2
  go_loopw [0] (fun v wr => ∃ r acc : ByteArray, v = .string r ∧ Bld w.heap.size w.heap.size acc wr ∧ Below w.heap.size w wr ∧ r.size ≤ s.size ∧ acc.data.toList ++ bareL r.data.toList = bareL s.data.toList) (fun v _ => Lib.strSize v)
  case atStart => exact ⟨s, ⟨#[]⟩, rfl, HF.out, (Below.refl _ _).alloc (Nat.le_refl _) _, Nat.le_refl _, rfl⟩
  case round =>
    obtain ⟨r, acc, rfl, hb, hw, hrs, hbr⟩ := hrel
    have HB : Hid (Bld w.heap.size w.heap.size acc wr) := hb
    have HW : Hid (Below w.heap.size w wr) := hw
    have hac : acc.size ≤ 1048576 := by
      have h1 := congrArg List.length hbr
      have h2 := bareL_len _ s.data.toList (Nat.le_refl _)
      rw [List.length_append, data_len] at h1
      rw [data_len] at h2
      omega
    have HMW : Hid (MaxL wr) := HM.out.low hw HLT.out
    have HWS : Hid (w.heap.size ≤ wr.heap.size) := Below.size hw
    clear hb hw
    have hr2 : r.size ≤ 1048576 := by omega
    cases hc : cut2 47 42 r.data.toList with
    | none =>
      have HC : Hid (cutW 47 42 r = .tuple #[.string r, .string ⟨#[]⟩, .bool false]) := by show cutW 47 42 r = _; unfold cutW; rw [hc]
      have HR : Hid (acc ++ r = bareB s) := by
        show _ = _
        rw [bareL_miss hc] at hbr
        unfold bareB
        rw [← hbr, ← bA_data (acc ++ r)]
        congr 1
        try simp
      clear hc hbr
      go_wp2_with fail
      refine Calls.mono (cut2i 47 42 r _ HMW.out hr2) ?_
      rw [HC.out]
      rintro e w1 ⟨rfl, n1, rfl⟩
      go_wp2_with fail
      refine Calls.mono (writeString w.heap.size w.heap.size acc r _ (HB.out.drewN n1) (by omega) HWS.out) ?_
      rintro e w2 ⟨rfl, b2, k2⟩
      have HB2 : Hid (Bld w.heap.size w.heap.size (acc ++ r) w2) := b2
      have HW2 : Hid (Below w.heap.size w w2) := Below.trans (below_drewN HW.out n1) k2
      clear b2 k2
      go_wp2_with fail
      refine Calls.mono (bld_string w.heap.size w.heap.size (acc ++ r) _ HB2.out (Below.size HW2.out)) ?_
      rintro e w3 ⟨rfl, k3⟩
      have HW3 : Hid (Below w.heap.size w w3) := Below.trans HW2.out k3
      clear k3
      go_wp2
      go_ret
      exact ⟨by rw [HR.out]; rfl, HW3.out⟩
    | some z =>
      obtain ⟨p, q⟩ := z
      have HC : Hid (cutW 47 42 r = .tuple #[.string (bA p), .string (bA q), .bool true]) := by show cutW 47 42 r = _; unfold cutW; rw [hc]
      have hl := cut2_len hc
      rw [data_len] at hl
      have hsk := skipC_len q
      have hp : (bA p).size ≤ 1048576 := by rw [bA_size]; omega
      have hq : (bA q).size ≤ 1048576 := by rw [bA_size]; omega
      have HC2 : Hid (∃ (x : ByteArray) (b : Bool), cutW 42 47 (bA q) = .tuple #[.string x, .string (bA (skipC q)), .bool b]) := by
        show ∃ _ _, _
        unfold cutW skipC
        rw [bA_list]
        cases cut2 42 47 q with
        | none => exact ⟨_, _, rfl⟩
        | some z => obtain ⟨p2, q2⟩ := z; exact ⟨_, _, rfl⟩
      have HSZ : Hid ((bA (skipC q)).size + 2 ≤ r.size) := by show _ ≤ _; rw [bA_size]; omega
      have HR : Hid (((acc ++ bA p) ++ ⟨#[32]⟩).data.toList ++ bareL (bA (skipC q)).data.toList = bareL s.data.toList) := by
        show _ = _
        rw [← hbr, bareL_hit hc, bA_list]
        simp [bA]
      clear hc hbr hl hsk
      generalize bA (skipC q) = R2 at *
      generalize bA p = P at *
      generalize bA q = Q at *
      have hRs := HSZ.out
      have hap : (acc ++ P).size ≤ 100000000 := by simp; omega
      go_wp2_with fail
      refine Calls.mono (cut2i 47 42 r _ HMW.out hr2) ?_
      rw [HC.out]
      rintro e w1 ⟨rfl, n1, rfl⟩
      go_wp2_with fail
      refine Calls.mono (writeString w.heap.size w.heap.size acc P _ (HB.out.drewN n1) (by omega) HWS.out) ?_
      rintro e w2 ⟨rfl, b2, k2⟩
      have HB2 : Hid (Bld w.heap.size w.heap.size (acc ++ P) w2) := b2
      have HW2 : Hid (Below w.heap.size w w2) := Below.trans (below_drewN HW.out n1) k2
      clear b2 k2
      go_wp2_with fail
      refine Calls.mono (writeByte w.heap.size w.heap.size (acc ++ P) 32 _ HB2.out hap (Below.size HW2.out)) ?_
      rintro e w3 ⟨rfl, b3, k3⟩
      have HB3 : Hid (Bld w.heap.size w.heap.size ((acc ++ P) ++ ⟨#[32]⟩) w3) := b3
      have HW3 : Hid (Below w.heap.size w w3) := Below.trans HW2.out k3
      clear b3 k3
      obtain ⟨x2, b2, hC2⟩ := HC2.out
      have HC3 : Hid (cutW 42 47 Q = .tuple #[.string x2, .string R2, .bool b2]) := hC2
      clear hC2 HC2
      go_wp2_with fail
      refine Calls.mono (cut2i 42 47 Q _ (HM.out.low HW3.out HLT.out) hq) ?_
      rw [HC3.out]
      rintro e w4 ⟨rfl, n4, rfl⟩
      go_wp2
      go_roundw
      case rel => exact ⟨R2, _, rfl, HB3.out.drewN n4, below_drewN HW3.out n4, by omega, HR.out⟩
      case measure => simp [Lib.strSize]; omega
end Go.Proofs.YtnkmdmmlpidcmaaGreatDoor
namespace Go.Proofs.YtnkmdmmlpidcmaaGreatDoor
open Go.ChangeShapes Go.WideShapes Go.ChangeAt Go.RowKit
set_option linter.unusedVariables false

def shtL (s : ByteArray) : List RD := if 1500 < s.size then [] else rules30 (bareB s)
def ShtSays (s : ByteArray) (w w' : World) (e : Ending) : Prop := ∃ v, e = .returned (.tuple #[v, .bool (!decide (1500 < s.size))]) ∧ RowM 2 ERule w' v (shtL s) (iv w w')
theorem iv_upR {w w1 w2 : World} (h : w.heap.size ≤ w1.heap.size) : ∀ b, iv w1 w2 b → iv w w2 b := fun b hb => ⟨Nat.le_trans h hb.1, hb.2⟩
set_option maxHeartbeats 2000000 in
theorem isheet (s : ByteArray) (w : World) (hm : MaxL w) (hs : s.size ≤ 1048576) :
    Calls Tryz.prog 9 #[.string s] w fun e w' => ShtSays s w w' e ∧ Nw w w' := by
  have HM : Hid (MaxL w) := hm
  clear hm
  unfold ShtSays shtL
  by_cases h : 1500 < s.size
  · have hd : decide (1500 < (s.size : Int)) = true := by simp; omega
    rw [if_pos h, decide_eq_true h]
    go_enter Tryz.func9, Tryz.ntmps9
    go_wp2
    go_ret2
    exact ⟨⟨_, rfl, RowM.nil _ _ _ _⟩, Below.refl _ _⟩
  · have hd : decide (1500 < (s.size : Int)) = false := by simp; omega
    rw [if_neg h, decide_eq_false h]
    have hbs := bareB_size s
    go_enter Tryz.func9, Tryz.ntmps9
    go_wp2_with fail
    refine Calls.mono (iwithout s _ HM.out hs) ?_
    rintro e w1 ⟨rfl, k1⟩
    have HN1 : Hid (Nw w w1) := k1
    clear k1
    go_wp2_with fail
    refine Calls.mono (irules (bareB s) _ (by omega)) ?_
    rintro e w2 ⟨⟨v, rfl, hr⟩, k2⟩
    have HR : Hid (RowM 2 ERule w2 v (rules30 (bareB s)) (iv w1 w2)) := hr
    have HN2 : Hid (Nw w w2) := Nw.trans HN1.out k2
    obtain ⟨a, c, hv, _⟩ := hr.slice
    subst hv
    clear hr k2
    go_wp2
    go_ret2
    exact ⟨⟨_, rfl, HR.out.mono (iv_upR (Below.size HN1.out))⟩, HN2.out⟩
end Go.Proofs.YtnkmdmmlpidcmaaGreatDoor
