/-
  Small facts on new lists and on what is left as it was; each theorem names its conditions.
  What an append leaves as it was; each theorem names its conditions.
  Lists of numbers of the call's own, to which numbers are appended; and what the laws' helpers do that hold two such lists against each other, mark one and look for the marks; each theorem names its conditions.
  Plain facts on lists of bytes: digits, the number that they tell; no condition.
-/
import Derived.Test.YtpfhnedklihdoaaGreatDoorJAA
import Derived.Deep.RegionWith
import Derived.Deep.RegionHeld3
import Derived.Maps.AppendAt
import Derived.OwnWalk
import Derived.Handy
namespace Go.Proofs.YtpfhnedklihdoaaGreatDoor
open Go.ChangeShapes Go.WideShapes Go.ChangeAt Go.RowKit
set_option linter.unusedVariables false

theorem Nw.drw {w w' : World} (h : Nw w.drew w') : Nw w w' := Nw.trans (show Nw w w.drew from (Below.refl _ _).drew) h
theorem bcell {W w1 : World} (hb : Nw W w1) : (∀ b o, b < W.heap.size → w1.cell? ⟨b, o, none⟩ = W.cell? ⟨b, o, none⟩) ∧ (∀ b o, b < W.heap.size → w1.frozen? ⟨b, o, none⟩ = W.frozen? ⟨b, o, none⟩) :=
  ⟨fun b o h => Below.cell hb (p := ⟨b, o, none⟩) h, fun b o h => Below.frozen hb (p := ⟨b, o, none⟩) h⟩
theorem run_mk (t e : TypeId) (z : Value) (size bytes : Nat) (ht : Tryz.prog.underlying t = some (.slice e)) (hinfo : (Tryz.prog.info? e).map (fun i => (i.zero, i.size, i.bytes)) = some (some z, size, bytes))
    (n : Nat) (hbytes : bytes * n ≤ 281474976710656) (h63 : n ≤ 9223372036854775807) (w : World) :
    (Instr.makeSlice t (.int .i64 (n : Int)) (.int .i64 (n : Int))).run Tryz.prog w = .ok (.slice (some ⟨w.heap.size, 0, none⟩) n n) (w.alloc (.cells (madeCells z.cells (n * size)) e)) := by
  obtain ⟨i, hi, hzz⟩ := Option.map_eq_some_iff.1 hinfo
  simp only [Prod.mk.injEq] at hzz
  obtain ⟨hz, hs, hb⟩ := hzz
  have hb' : (i.bytes : Int) * (n : Int) ≤ 281474976710656 := by
    have h : ((i.bytes * n : Nat) : Int) ≤ 281474976710656 := by rw [hb]; omega
    rwa [Int.natCast_mul] at h
  have hr := run_make (P := Tryz.prog) w t e i z ht hi hz .i64 .i64 n n (by omega) (Int.le_refl _) hb' (by omega)
  simpa [hs] using hr
theorem madeCells_get (z : Array Value) (n j : Nat) (h : j < n) : (madeCells z n)[j]? = some (z[j % z.size]!) := by
  simp [madeCells, h]
theorem addr_spot {W : World} {x : Addr} {v : Value} (h : W.cell? (x.add 0) = some v) : x = ⟨x.block, x.off, none⟩ := by
  obtain ⟨b, off, spot⟩ := x
  have hs := World.cell?_spot h
  simp [Addr.add] at hs
  subst hs; rfl
theorem add_at (b off i : Nat) : (⟨b, off, none⟩ : Addr).add i = ⟨b, off + i, none⟩ := by
  unfold Addr.add
  by_cases h0 : i = 0
  · subst h0; simp
  · simp [h0]
end Go.Proofs.YtpfhnedklihdoaaGreatDoor
namespace Go.Proofs.YtpfhnedklihdoaaGreatDoor
open Go.ChangeShapes Go.WideShapes Go.ChangeAt Go.RowKit
set_option linter.unusedVariables false

/-- Behind an append to v, which is v' now. -/
def Ext (v v' : Value) (w w' : World) : Prop := w.grownBy w' v.ownBlock ∧ (v'.ownBlock = v.ownBlock ∨ ∃ g, v'.ownBlock = some g ∧ w.heap.size ≤ g)
theorem Ext.refl (v : Value) (w : World) : Ext v v w w := ⟨⟨rfl, rfl, rfl, Nat.le_refl _, fun _ _ _ => rfl⟩, Or.inl rfl⟩
theorem Ext.size {v v' : Value} {w w' : World} (h : Ext v v' w w') : w.heap.size ≤ w'.heap.size := h.1.size
theorem Ext.trans {v v1 v2 : Value} {w w1 w2 : World} (h : Ext v v1 w w1) (k : Ext v1 v2 w1 w2) : Ext v v2 w w2 := by
  refine ⟨⟨k.1.os.trans h.1.os, k.1.tape.trans h.1.tape, k.1.output.trans h.1.output, Nat.le_trans h.1.size k.1.size, fun b hb hne => ?_⟩, ?_⟩
  · rw [k.1.block b (Nat.lt_of_lt_of_le hb h.1.size) ?_, h.1.block b hb hne]
    rcases h.2 with e | ⟨g, e, hg⟩
    · rw [e]; exact hne
    · rw [e]; intro e2; injection e2; omega
  · rcases k.2 with e | ⟨g, e, hg⟩
    · rcases h.2 with e2 | ⟨g, e2, hg⟩
      · exact Or.inl (e.trans e2)
      · exact Or.inr ⟨g, e.trans e2, hg⟩
    · exact Or.inr ⟨g, e, Nat.le_trans h.1.size hg⟩
theorem Nw.ext {v v' : Value} {a b c : World} (h : Nw a b) (k : Ext v v' b c) : Ext v v' a c := by
  have hs := Below.size h
  refine ⟨⟨k.1.os.trans (Below.os h), k.1.tape.trans (Below.tape h), k.1.output.trans (Below.output h), Nat.le_trans hs k.1.size, fun b hb hne => ?_⟩, ?_⟩
  · rw [k.1.block b (by omega) hne, Below.block h b hb]
  · rcases k.2 with e | ⟨g, e, hg⟩
    · exact Or.inl e
    · exact Or.inr ⟨g, e, by omega⟩
theorem Ext.nw {v v' : Value} {a b c : World} (h : Ext v v' a b) (k : Nw b c) : Ext v v' a c := by
  have hs := h.1.size
  refine ⟨⟨(Below.os k).trans h.1.os, (Below.tape k).trans h.1.tape, (Below.output k).trans h.1.output, Nat.le_trans hs (Below.size k), fun b hb hne => ?_⟩, h.2⟩
  rw [Below.block k b (by omega), h.1.block b hb hne]
theorem Ext.below {v v' : Value} {w w' : World} {B : Nat} (h : Ext v v' w w') (hv : ∀ g, v.ownBlock = some g → B ≤ g) (hB : B ≤ w.heap.size) : Below B w w' :=
  ⟨h.1.os, h.1.tape, h.1.output, h.1.size, fun k hk => h.1.block k (by omega) (fun e => by have := hv k e.symm; omega)⟩
theorem Ext.apart {v v' : Value} {w w' : World} {b : Nat} (h : Ext v v' w w') (hb : b < w.heap.size) (hne : v.ownBlock ≠ some b) : v'.ownBlock ≠ some b := by
  rcases h.2 with e | ⟨g, e, hg⟩
  · rw [e]; exact hne
  · rw [e]; intro e2; injection e2; omega
theorem Ext.cell {v v' : Value} {w w' : World} {b : Nat} (h : Ext v v' w w') (hb : b < w.heap.size) (hne : v.ownBlock ≠ some b) (o : Nat) : w'.cell? ⟨b, o, none⟩ = w.cell? ⟨b, o, none⟩ :=
  World.cell?_of_block (w := w) (a := ⟨b, o, none⟩) (h.1.block b hb (fun e => hne e.symm))

theorem set_grown {w : World} {b o : Nat} {u : Value} : w.grownBy (w.setCell ⟨b, o, none⟩ u) (some b) :=
  ⟨rfl, rfl, rfl, by simp [World.setCell], fun i hi hne => Below.heap_setCell _ _ _ _ (by intro e; apply hne; rw [e])⟩
end Go.Proofs.YtpfhnedklihdoaaGreatDoor
namespace Go.Proofs.YtpfhnedklihdoaaGreatDoor
open Go.ChangeShapes Go.WideShapes Go.ChangeAt Go.RowKit
set_option linter.unusedVariables false

theorem ins_parts : ∃ i, Tryz.prog.info? 3 = some i ∧ i.zero = some (.int .i64 0) ∧ i.size = 1 ∧ i.bytes = 8 := by
  have h : (Tryz.prog.info? 3).map (fun i => (i.zero, i.size, i.bytes)) = some (some (.int .i64 0), 1, 8) := by kernel_rfl
  obtain ⟨i, hi, hzz⟩ := Option.map_eq_some_iff.1 h
  simp only [Prod.mk.injEq] at hzz
  exact ⟨i, hi, hzz⟩
/-- The numbers l in a list of the call's own, nil or in a block from B on. -/
def Ins (w : World) (B : Nat) (v : Value) (l : List Int) : Prop := w.ownsRow B 3 1 v l.length (l.map (Value.int .i64))
theorem Ins.nil (w : World) (B : Nat) : Ins w B (.slice none 0 0) [] := World.ownsRow_nil w B _ 1
theorem Ins.nw {w w' : World} {B : Nat} {v : Value} {l : List Int} (h : Ins w B v l) (k : Nw w w') : Ins w' B v l :=
  World.ownsRow.kept h (row := none) ⟨Below.os k, Below.tape k, Below.output k, Below.size k, fun b hb _ => Below.block k b hb⟩ (by cases hv : v.ownBlock <;> simp)
theorem Ins.below {w w' : World} {B : Nat} {v v' : Value} {l : List Int} (h : Ins w B v l) (k : Ext v v' w w') (hB : B ≤ w.heap.size) : Below B w w' :=
  k.below (fun g e => (World.ownsRow.lt h g e).1) hB
def intAt (l : List Int) (i : Nat) : Int := l.getD i 0
/-- The numbers l lie in the block g. -/
def LayI (w : World) (g : Nat) (l : List Int) : Prop :=
  g < w.heap.size ∧ (∀ i, i < l.length → w.cell? ⟨g, i, none⟩ = some (.int .i64 (intAt l i))) ∧ ∀ o, w.frozen? ⟨g, o, none⟩ = false
theorem LayI.nw {w w' : World} {g : Nat} {l : List Int} (h : LayI w g l) (k : Nw w w') : LayI w' g l :=
  ⟨Nat.lt_of_lt_of_le h.1 (Below.size k), fun i hi => ((bcell k).1 _ _ h.1).trans (h.2.1 i hi), fun o => ((bcell k).2 _ _ h.1).trans (h.2.2 o)⟩
/-- Where they lie. -/
theorem Ins.lay {w : World} {B : Nat} {v : Value} {l : List Int} (h : Ins w B v l) : (v = .slice none 0 0 ∧ l = []) ∨ ∃ g c, v = .slice (some ⟨g, 0, none⟩) l.length c ∧ B ≤ g ∧ LayI w g l := by
  rcases h.2 with ⟨hn, h0⟩ | ⟨g, cap, cur, h1, h2, h3⟩
  · exact Or.inl ⟨hn, List.eq_nil_of_length_eq_zero h0⟩
  · refine Or.inr ⟨g, cap, h1, h2, ?_⟩
    subst h1
    refine ⟨(World.ownsRow.lt h g rfl).2, fun i hi => ?_, fun o => World.ownsRow.frozenAt h o⟩
    have := World.ownsRow.cellAt h i (by omega)
    rw [this]
    simp [intAt, hi]
/-- Nil, or a block of its own. -/
def Lay0 (w : World) (B : Nat) (v : Value) (l : List Int) : Prop := (v = .slice none 0 0 ∧ l = []) ∨ ∃ g c, v = .slice (some ⟨g, 0, none⟩) l.length c ∧ B ≤ g ∧ LayI w g l
/-- A number is appended. -/
theorem wp_in (w : World) {ops : Array Oper} {rest : List Oper} {o : Oper} {a : Act} {Q : Exit → Act → World → Prop} (hgd : o.guard = none) (s x : Operand)
    (ho : o.op = .call { callee := .builtin .append, args := #[s, x], argTypes := #[31, 31] })
    (B : Nat) (v : Value) (l : List Int) (t : Int) (hs : a.eval s = v) (hown : Ins w B v l) (g : Nat) (hx : a.eval x = .slice (some ⟨g, 0, none⟩) 1 1) (hc : w.cell? ⟨g, 0, none⟩ = some (.int .i64 t))
    (h63 : l.length ≤ 10000000) (hB : B ≤ w.heap.size)
    (h : ∀ v' w', Ins w' B v' (l ++ [t]) → Ext v v' w w' → wpList Tryz.prog ops Q rest (a.put o.dst v') w') : wpList Tryz.prog ops Q (o :: rest) a w := by
  obtain ⟨i0, hi, hz0, hz1, hz2⟩ := ins_parts
  refine wpList_append_own_at w hgd s x 31 ho B 3 i0 (.int .i64 0) 1 8 Tryz.underlying31 hi hz0 hz1 hz2 rfl (by decide) v l.length (l.map (Value.int .i64)) hs hown ⟨g, 0, none⟩ 1 1 [.int .i64 t] hx rfl (fun j u hj => ?_) (fun u hu => ?_) (by unfold maxLen; omega) (by omega) hB ?_
  · cases j with
    | zero => simp at hj; subst hj; simpa [Addr.add] using hc
    | succ j => simp at hj
  · simp at hu; subst hu; rfl
  · intro v' w' h1 h2 _ h4
    refine h v' w' ?_ ⟨h2, h4.imp id fun e => ⟨_, e, Nat.le_refl _⟩⟩
    unfold Ins
    rw [List.length_append, List.map_append]
    exact h1
end Go.Proofs.YtpfhnedklihdoaaGreatDoor
namespace Go.Proofs.YtpfhnedklihdoaaGreatDoor

/-- A digit. -/
def isD (c : UInt8) : Bool := decide (48 ≤ c.toNat) && decide (c.toNat ≤ 57)
/-- The number that digits tell. -/
def num (l : List UInt8) : Int := l.foldl (fun n c => n * 10 + ((c.toNat : Int) - 48)) 0

theorem isD_iff (c : UInt8) : isD c = true ↔ 48 ≤ (c.toNat : Int) ∧ (c.toNat : Int) ≤ 57 := by
  unfold isD; simp; omega
theorem num_snoc (l : List UInt8) (c : UInt8) : num (l ++ [c]) = num l * 10 + ((c.toNat : Int) - 48) := by
  unfold num; rw [List.foldl_append]; rfl
theorem num_nil : num [] = 0 := rfl
theorem pow_pos10 (k : Nat) : 0 < (10 : Int) ^ k := Int.pow_pos (by omega)
theorem foldl_from (m : List UInt8) : ∀ n : Int, m.foldl (fun n c => n * 10 + ((c.toNat : Int) - 48)) n = n * 10 ^ m.length + num m := by
  induction m with
  | nil => intro n; simp [num]
  | cons c m ih =>
    intro n
    have e : num (c :: m) = (0 * 10 + ((c.toNat : Int) - 48)) * 10 ^ m.length + num m := ih _
    rw [List.foldl_cons, ih, e, List.length_cons, Int.pow_succ, Int.add_mul, Int.add_mul, Int.mul_assoc, Int.mul_comm (10 ^ m.length) 10]
    omega
theorem num_append (l m : List UInt8) : num (l ++ m) = num l * 10 ^ m.length + num m := by
  rw [← foldl_from]; unfold num; rw [List.foldl_append]
theorem num_cons (c : UInt8) (m : List UInt8) : num (c :: m) = ((c.toNat : Int) - 48) * 10 ^ m.length + num m := by
  have h := num_append [c] m
  rw [List.singleton_append] at h
  rw [h]; simp [num]
theorem num_bd (l : List UInt8) : l.all isD = true → 0 ≤ num l ∧ num l < 10 ^ l.length := by
  induction l with
  | nil => intro _; simp [num_nil]
  | cons c l ih =>
    intro h
    simp only [List.all_cons, Bool.and_eq_true] at h
    have h1 := ih h.2
    have h2 := (isD_iff c).1 h.1
    have h3 := pow_pos10 l.length
    rw [num_cons, List.length_cons, Int.pow_succ]
    generalize (10 : Int) ^ l.length = P at *
    have h4 : 0 ≤ ((c.toNat : Int) - 48) * P := Int.mul_nonneg (by omega) (by omega)
    have h5 : ((c.toNat : Int) - 48) * P ≤ 9 * P := Int.mul_le_mul_of_nonneg_right (by omega) (by omega)
    omega
theorem take_snoc (s : ByteArray) (k : Nat) (h : k < s.size) : s.data.toList.take (k + 1) = s.data.toList.take k ++ [s[k]] := by
  rw [List.take_succ_eq_append_getElem (by simpa using h)]; rfl
end Go.Proofs.YtpfhnedklihdoaaGreatDoor
