/-
  The writer of marks, the program's: what it holds, and what its write leaves; each theorem names its conditions.
-/
import Derived.Test.YtgjnemmkpbkfhaaDoorMtT
import Derived.Test.YtgjnemmkpbkfhaaDoorBuf
import Derived.Test.YtgjnemmkpbkfhaaDoorIns
import Derived.Test.YtgjnemmkpbkfhaaDoorPs
import Derived.WalkSmall
namespace Go.Proofs.YtgjnemmkpbkfhaaDoor
open Go.ChangeShapes Go.WideShapes Go.ChangeAt Go.RowKit
set_option linter.unusedVariables false

theorem grown_cell {w : World} {b o : Nat} {u : Value} : w.grownBy (w.setCell ⟨b, o, none⟩ u) (some b) :=
  ⟨rfl, rfl, rfl, by simp [World.setCell], fun i hi hne => Below.heap_setCell _ _ _ _ (by intro e; apply hne; rw [e])⟩
theorem Buf.far {w : World} {B : Nat} {v : Value} {s : ByteArray} (h : Buf w B v s) (b o : Nat) (u : Value) (hne : v.ownBlock ≠ some b) : Buf (w.setCell ⟨b, o, none⟩ u) B v s :=
  World.ownsRow.kept h grown_cell (Or.inr hne)
theorem Ins.far {w : World} {B : Nat} {v : Value} {l : List Int} (h : Ins w B v l) (b o : Nat) (u : Value) (hne : v.ownBlock ≠ some b) : Ins (w.setCell ⟨b, o, none⟩ u) B v l :=
  World.ownsRow.kept h grown_cell (Or.inr hne)
theorem Ins.ext {w w' : World} {B : Nat} {v x x' : Value} {l : List Int} (h : Ins w B v l) (k : Ext x x' w w') (hne : ∀ g, v.ownBlock = some g → x.ownBlock ≠ some g) : Ins w' B v l :=
  World.ownsRow.kept h k.1 (by
    cases e : v.ownBlock with
    | none => exact Or.inl rfl
    | some g => exact Or.inr fun e2 => hne g e e2.symm)
theorem Buf.ext {w w' : World} {B : Nat} {v x x' : Value} {s : ByteArray} (h : Buf w B v s) (k : Ext x x' w w') (hne : ∀ g, v.ownBlock = some g → x.ownBlock ≠ some g) : Buf w' B v s :=
  World.ownsRow.kept h k.1 (by
    cases e : v.ownBlock with
    | none => exact Or.inl rfl
    | some g => exact Or.inr fun e2 => hne g e e2.symm)
/-- The writer lies in the block b; what it owns lies behind it, each in its own block. -/
structure Wr (w : World) (b : Nat) (nv vo vt : Value) (st : List Int) (o : ByteArray) : Prop where
  lt : b < w.heap.size
  free : ∀ x, w.frozen? ⟨b, x, none⟩ = false
  c0 : w.cell? ⟨b, 0, none⟩ = some nv
  c1 : w.cell? ⟨b, 1, none⟩ = some vo
  c2 : w.cell? ⟨b, 2, none⟩ = some vt
  op : Ins w (b + 1) vo st
  out : Buf w (b + 1) vt o
  apart : ∀ g, vo.ownBlock = some g → vt.ownBlock ≠ some g
theorem Wr.nw {w w' : World} {b : Nat} {nv vo vt : Value} {st : List Int} {o : ByteArray} (h : Wr w b nv vo vt st o) (k : Nw w w') : Wr w' b nv vo vt st o :=
  ⟨Nat.lt_of_lt_of_le h.lt (Below.size k), fun x => ((bcell k).2 _ _ h.lt).trans (h.free x), ((bcell k).1 _ _ h.lt).trans h.c0, ((bcell k).1 _ _ h.lt).trans h.c1, ((bcell k).1 _ _ h.lt).trans h.c2, h.op.nw k, h.out.nw k, h.apart⟩
theorem Wr.vt_ne {w : World} {b : Nat} {nv vo vt : Value} {st : List Int} {o : ByteArray} (h : Wr w b nv vo vt st o) : vt.ownBlock ≠ some b := fun e => by
  have := (World.ownsRow.lt h.out b e).1
  omega
theorem Wr.vo_ne {w : World} {b : Nat} {nv vo vt : Value} {st : List Int} {o : ByteArray} (h : Wr w b nv vo vt st o) : vo.ownBlock ≠ some b := fun e => by
  have := (World.ownsRow.lt h.op b e).1
  omega
theorem Wr.vt_lt {w : World} {b : Nat} {nv vo vt : Value} {st : List Int} {o : ByteArray} (h : Wr w b nv vo vt st o) : ∀ g, vt.ownBlock = some g → g < w.heap.size := fun g e => (World.ownsRow.lt h.out g e).2
theorem Wr.vo_lt {w : World} {b : Nat} {nv vo vt : Value} {st : List Int} {o : ByteArray} (h : Wr w b nv vo vt st o) : ∀ g, vo.ownBlock = some g → g < w.heap.size := fun g e => (World.ownsRow.lt h.op g e).2
/-- What is written is stored. -/
theorem Wr.put {w w' : World} {b : Nat} {nv vo vt vt' : Value} {st : List Int} {o o' : ByteArray} (h : Wr w b nv vo vt st o) (k : Ext vt vt' w w') (hb : Buf w' (b + 1) vt' o') : Wr (w'.setCell ⟨b, 2, none⟩ vt') b nv vo vt' st o' := by
  have hc := fun x => Ext.cell k h.lt h.vt_ne x
  have hf : ∀ x, w'.frozen? ⟨b, x, none⟩ = false := fun x => (World.frozen?_of_block (w := w) (a := ⟨b, x, none⟩) (k.1.block b h.lt (fun e => h.vt_ne e.symm))).trans (h.free x)
  have hne : vt'.ownBlock ≠ some b := Ext.apart k h.lt h.vt_ne
  refine ⟨Nat.lt_of_lt_of_le h.lt (by simpa [World.setCell] using k.size), fun x => by rw [World.frozen?_setCell]; exact hf x, ?_, ?_, ?_, ?_, hb.far b 2 _ hne, fun g e => ?_⟩
  · rw [World.cell?_setCell_other _ _ _ _ (fun e => by injection e; omega)]; exact (hc 0).trans h.c0
  · rw [World.cell?_setCell_other _ _ _ _ (fun e => by injection e; omega)]; exact (hc 1).trans h.c1
  · exact World.cell?_setCell_same w' _ _ ((hc 2).trans h.c2)
  · exact (h.op.ext k h.apart).far b 2 _ h.vo_ne
  · exact Ext.apart k (h.vo_lt g e) (h.apart g e)
theorem Wr.put_below {w w' : World} {b : Nat} {nv vo vt vt' : Value} {st : List Int} {o : ByteArray} (h : Wr w b nv vo vt st o) (k : Ext vt vt' w w') : Below b w (w'.setCell ⟨b, 2, none⟩ vt') :=
  Below.setCell (k.below (fun g e => by have := (World.ownsRow.lt h.out g e).1; omega) (Nat.le_of_lt h.lt)) (Nat.le_refl _) _
/-- Nothing that was there is written but the writer's own block and its text's. -/
structure Tch (b : Nat) (vt vt' : Value) (w w' : World) : Prop where
  below : Below b w w'
  block : ∀ i, i < w.heap.size → i ≠ b → vt.ownBlock ≠ some i → w'.heap[i]? = w.heap[i]?
  own : vt'.ownBlock = vt.ownBlock ∨ ∃ g, vt'.ownBlock = some g ∧ w.heap.size ≤ g
theorem Tch.refl (b : Nat) (vt : Value) (w : World) : Tch b vt vt w w := ⟨Below.refl _ _, fun _ _ _ _ => rfl, Or.inl rfl⟩
theorem Tch.trans {b : Nat} {v0 v1 v2 : Value} {w0 w1 w2 : World} (h : Tch b v0 v1 w0 w1) (k : Tch b v1 v2 w1 w2) : Tch b v0 v2 w0 w2 := by
  have hs := Below.size h.below
  refine ⟨Below.trans h.below k.below, fun i hi hb hv => ?_, ?_⟩
  · rw [k.block i (by omega) hb ?_, h.block i hi hb hv]
    rcases h.own with e | ⟨g, e, hg⟩
    · rw [e]; exact hv
    · rw [e]; intro e2; injection e2; omega
  · rcases k.own with e | ⟨g, e, hg⟩
    · rcases h.own with e2 | ⟨g, e2, hg⟩
      · exact Or.inl (e.trans e2)
      · exact Or.inr ⟨g, e.trans e2, hg⟩
    · exact Or.inr ⟨g, e, by omega⟩
theorem Nw.tch {b : Nat} {v v' : Value} {w0 w1 w2 : World} (h : Nw w0 w1) (k : Tch b v v' w1 w2) (hb : b < w0.heap.size) : Tch b v v' w0 w2 := by
  have hs := Below.size h
  refine ⟨Below.trans (Below.mono h (Nat.le_of_lt hb)) k.below, fun i hi hb hv => ?_, ?_⟩
  · rw [k.block i (by omega) hb hv, Below.block h i hi]
  · rcases k.own with e | ⟨g, e, hg⟩
    · exact Or.inl e
    · exact Or.inr ⟨g, e, by omega⟩
theorem Tch.cell {b : Nat} {v v' : Value} {w w' : World} (h : Tch b v v' w w') {i : Nat} (hi : i < w.heap.size) (hb : i ≠ b) (hv : v.ownBlock ≠ some i) (o : Nat) : w'.cell? ⟨i, o, none⟩ = w.cell? ⟨i, o, none⟩ :=
  World.cell?_of_block (w := w) (a := ⟨i, o, none⟩) (h.block i hi hb hv)
theorem Tch.apart {b : Nat} {v v' : Value} {w w' : World} (h : Tch b v v' w w') {i : Nat} (hi : i < w.heap.size) (hv : v.ownBlock ≠ some i) : v'.ownBlock ≠ some i := by
  rcases h.own with e | ⟨g, e, hg⟩
  · rw [e]; exact hv
  · rw [e]; intro e2; injection e2; omega
theorem Wr.tch {w w' : World} {b : Nat} {nv vo vt vt' : Value} {st : List Int} {o : ByteArray} (h : Wr w b nv vo vt st o) (k : Ext vt vt' w w') : Tch b vt vt' w (w'.setCell ⟨b, 2, none⟩ vt') :=
  ⟨h.put_below k, fun i hi hb hv => by rw [Below.heap_setCell _ _ _ _ (by show i ≠ b; exact hb)]; exact k.1.block i hi (fun e => hv e.symm), k.2⟩
/-- The texts ts lie in the block g. -/
def TxIn (w : World) (g : Nat) (ts : List ByteArray) : Prop := g < w.heap.size ∧ ∀ i, i < ts.length → w.cell? ⟨g, i, none⟩ = some (.string (strAt ts i))
def catN (ts : List ByteArray) : Nat → ByteArray
  | 0 => ByteArray.empty
  | n + 1 => catN ts n ++ strAt ts n
theorem catN_le (ts : List ByteArray) : ∀ n d, (catN ts n).size ≤ (catN ts (n + d)).size := by
  intro n d
  induction d with
  | zero => exact Nat.le_refl _
  | succ d ih => rw [← Nat.add_assoc, catN, ByteArray.size_append]; omega
set_option maxHeartbeats 2000000 in
set_option maxRecDepth 100000 in
theorem iwrite (w : World) (b : Nat) (nv vo vt : Value) (st : List Int) (o : ByteArray) (g c : Nat) (ts : List ByteArray) (h : Wr w b nv vo vt st o) (ht : TxIn w g ts) (hgb : g ≠ b) (hgt : vt.ownBlock ≠ some g) (hn : ts.length ≤ 10) (hsz : o.size + (catN ts ts.length).size ≤ 9000000) :
    Calls Tryd.prog 86 #[.pointer (some ⟨b, 0, none⟩), .slice (some ⟨g, 0, none⟩) ts.length c] w fun e w' => e = .returned (.tuple #[]) ∧ ∃ vt', Wr w' b nv vo vt' st (o ++ catN ts ts.length) ∧ Tch b vt vt' w w' := by
  have H0 : Hid (Wr w b nv vo vt st o) := h
  have HT : Hid (TxIn w g ts) := ht
  have HGT : Hid (vt.ownBlock ≠ some g) := hgt
  clear h ht hgt
  go_enter Tryd.func86, Tryd.ntmps86
  go_wp2
  go_loopw [8] (fun i wr => ∃ (n : Nat) (vt' : Value), n ≤ ts.length ∧ i = .int .i64 n ∧ Wr wr b nv vo vt' st (o ++ catN ts n) ∧ TxIn wr g ts ∧ vt'.ownBlock ≠ some g ∧ Tch b vt vt' w wr) (fun i _ => ts.length - (intOf i).toNat)
  case atStart => exact ⟨0, vt, Nat.zero_le _, rfl, by show Wr w b nv vo vt st (o ++ ByteArray.empty); rw [ByteArray.append_empty]; exact H0.out, HT.out, HGT.out, Tch.refl _ _ _⟩
  case round =>
    obtain ⟨n, v1, hle, rfl, hwr, htx, hv1, hbw⟩ := hrel
    have HW : Hid (Wr wr b nv vo v1 st (o ++ catN ts n)) := hwr
    have HX : Hid (TxIn wr g ts) := htx
    have HV : Hid (v1.ownBlock ≠ some g) := hv1
    have HB : Hid (Tch b vt v1 w wr) := hbw
    clear hwr htx hv1 hbw
    by_cases hlt : n < ts.length
    · have hltI : (n : Int) < ts.length := by omega
      have q0 := HX.out.2 n hlt
      have c2 := HW.out.c2
      have hcat : Hid (catN ts (n + 1) = catN ts n ++ strAt ts n) := rfl
      have hs1 : (o ++ catN ts n).size + (strAt ts n).size ≤ 10000000 := by
        have h1 := catN_le ts (n + 1) (ts.length - (n + 1))
        rw [show n + 1 + (ts.length - (n + 1)) = ts.length by omega, catN, ByteArray.size_append] at h1
        rw [ByteArray.size_append]; omega
      have HB1 : Hid (Buf wr (b + 1) v1 (o ++ catN ts n)) := HW.out.out
      have hbz : b + 1 ≤ wr.heap.size := HW.out.lt
      generalize strAt ts n = s at *
      generalize hT : o ++ catN ts n = T at *
      go_wp2_with (at_builtin; (refine wp_text _ rfl _ _ rfl (b + 1) v1 T rfl HB1.out s rfl hs1 hbz ?_))
      intro v' w' h1 h2
      have HP : Hid (Wr (w'.setCell ⟨b, 2, none⟩ v') b nv vo v' st (T ++ s)) := HW.out.put h2 h1
      have HQ : Hid (Tch b vt v' w (w'.setCell ⟨b, 2, none⟩ v')) := HB.out.trans (HW.out.tch h2)
      have d2 := (Ext.cell h2 HW.out.lt HW.out.vt_ne 2).trans c2
      have f2 : w'.frozen? ⟨b, 2, none⟩ = false := (World.frozen?_of_block (w := wr) (a := ⟨b, 2, none⟩) (h2.1.block b HW.out.lt (fun e => HW.out.vt_ne e.symm))).trans (HW.out.free 2)
      have HX2 : Hid (TxIn (w'.setCell ⟨b, 2, none⟩ v') g ts) := by
        refine ⟨Nat.lt_of_lt_of_le HX.out.1 (by simpa [World.setCell] using h2.size), fun i hi => ?_⟩
        rw [World.cell?_setCell_other _ _ _ _ (fun e => by injection e; omega)]
        exact (Ext.cell h2 HX.out.1 HV.out i).trans (HX.out.2 i hi)
      have HV2 : Hid (v'.ownBlock ≠ some g) := Ext.apart h2 HX.out.1 HV.out
      obtain ⟨xa, xn, xc, rfl⟩ : ∃ xa xn xc, v' = .slice xa xn xc := by
        rcases h1.2 with ⟨e, _⟩ | ⟨g1, c1, cu, e, _⟩
        · exact ⟨none, 0, 0, e⟩
        · exact ⟨_, _, c1, e⟩
      clear h1 h2
      go_wp2
      go_roundw
      case rel => exact ⟨n + 1, _, by omega, by go_num, by rw [hcat.out, ← ByteArray.append_assoc, hT]; exact HP.out, HX2.out, HV2.out, HQ.out⟩
      case measure => simp [intOf]; omega
    · have e : n = ts.length := by omega
      subst e
      have hltI : ¬ (ts.length : Int) < ts.length := by omega
      go_wp2
      go_end0
      exact ⟨rfl, v1, HW.out, HB.out⟩
end Go.Proofs.YtgjnemmkpbkfhaaDoor
