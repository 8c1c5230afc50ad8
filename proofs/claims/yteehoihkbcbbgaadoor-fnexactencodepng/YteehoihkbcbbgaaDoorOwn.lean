/-
  Lists of bytes of the call's own, to which is appended, and what leaves them as they are; each theorem names its conditions.
-/
import Derived.Test.YteehoihkbcbbgaaDoorFilt
import Derived.Test.YteehoihkbcbbgaaDoorFrame
import Derived.Maps.AppendAt
import Derived.Lib.AppendStr
import Derived.Deep.Upon
import Derived.OwnWalk
import Derived.Handy
namespace Go.Proofs.YteehoihkbcbbgaaDoor
open Go.ChangeShapes Go.WideShapes Go.ChangeAt Go.RowKit
set_option linter.unusedVariables false

def vals (zs : List Int) : List Value := zs.map (Value.int .u8)
theorem vals_append (xs ys : List Int) : vals (xs ++ ys) = vals xs ++ vals ys := by simp [vals]
theorem vals_len (xs : List Int) : (vals xs).length = xs.length := by simp [vals]
/-- The bytes zs in a list of the call's own, nil or in a block from B on. -/
def Own (w : World) (B : Nat) (v : Value) (zs : List Int) : Prop := w.ownsRow B 5 1 v zs.length (vals zs)
/-- Behind an append to v, which is v' now. -/
def Ext (v v' : Value) (w w' : World) : Prop := w.grownBy w' v.ownBlock ∧ (v'.ownBlock = v.ownBlock ∨ ∃ g, v'.ownBlock = some g ∧ w.heap.size ≤ g)
theorem Ext.refl (v : Value) (w : World) : Ext v v w w := ⟨⟨rfl, rfl, rfl, Nat.le_refl _, fun _ _ _ => rfl⟩, Or.inl rfl⟩
theorem Ext.size {v v' : Value} {w w' : World} (h : Ext v v' w w') : w.heap.size ≤ w'.heap.size := h.1.size
theorem Ext.trans {v v1 v2 : Value} {w w1 w2 : World} (h : Ext v v1 w w1) (k : Ext v1 v2 w1 w2) : Ext v v2 w w2 := by
  refine ⟨⟨k.1.os.trans h.1.os, k.1.tape.trans h.1.tape, k.1.output.trans h.1.output, Nat.le_trans h.1.size k.1.size, fun b hb hne => ?_⟩, ?_⟩
  · rw [k.1.block b (Nat.lt_of_lt_of_le hb h.1.size) ?_, h.1.block b hb hne]
    rcases h.2 with e | ⟨g, e, hg⟩
    · rw [e]; exact hne
    · rw [e]; intro e2; injection e2; omega
  · rcases k.2 with e | ⟨g, e, hg⟩
    · rcases h.2 with e2 | ⟨g, e2, hg⟩
      · exact Or.inl (e.trans e2)
      · exact Or.inr ⟨g, e.trans e2, hg⟩
    · exact Or.inr ⟨g, e, Nat.le_trans h.1.size hg⟩
theorem Nw.ext {v v' : Value} {a b c : World} (h : Nw a b) (k : Ext v v' b c) : Ext v v' a c := by
  have hs := Below.size h
  refine ⟨⟨k.1.os.trans (Below.os h), k.1.tape.trans (Below.tape h), k.1.output.trans (Below.output h), Nat.le_trans hs k.1.size, fun b hb hne => ?_⟩, ?_⟩
  · rw [k.1.block b (by omega) hne, Below.block h b hb]
  · rcases k.2 with e | ⟨g, e, hg⟩
    · exact Or.inl e
    · exact Or.inr ⟨g, e, by omega⟩
theorem Ext.nw {v v' : Value} {a b c : World} (h : Ext v v' a b) (k : Nw b c) : Ext v v' a c := by
  have hs := h.1.size
  refine ⟨⟨(Below.os k).trans h.1.os, (Below.tape k).trans h.1.tape, (Below.output k).trans h.1.output, Nat.le_trans hs (Below.size k), fun b hb hne => ?_⟩, h.2⟩
  rw [Below.block k b (by omega), h.1.block b hb hne]
theorem Ext.below {v v' : Value} {w w' : World} {B : Nat} (h : Ext v v' w w') (hv : ∀ g, v.ownBlock = some g → B ≤ g) (hB : B ≤ w.heap.size) : Below B w w' :=
  ⟨h.1.os, h.1.tape, h.1.output, h.1.size, fun k hk => h.1.block k (by omega) (fun e => by have := hv k e.symm; omega)⟩
theorem Ext.lie {v v' : Value} {w w' : World} {b off : Nat} {zs : List Int} (h : Ext v v' w w') (k : Lie w b off zs) (hne : v.ownBlock ≠ some b) : Lie w' b off zs :=
  ⟨Nat.lt_of_lt_of_le k.1 h.1.size, fun i hi => (World.cell?_of_block (w := w) (a := ⟨b, off + i, none⟩) (h.1.block b k.1 (fun e => hne e.symm))).trans (k.2 i hi)⟩
theorem Ext.apart {v v' : Value} {w w' : World} {b : Nat} (h : Ext v v' w w') (hb : b < w.heap.size) (hne : v.ownBlock ≠ some b) : v'.ownBlock ≠ some b := by
  rcases h.2 with e | ⟨g, e, hg⟩
  · rw [e]; exact hne
  · rw [e]; intro e2; injection e2; omega

theorem Own.nil (w : World) (B : Nat) : Own w B (.slice none 0 0) [] := World.ownsRow_nil w B _ 1
theorem Own.lit (w : World) (B : Nat) (zs : List Int) (n : Nat) (cs : Array Value) (hc : cs.toList = vals zs) (hn : zs.length = n) (hB : B ≤ w.heap.size) (hl : n ≤ 1000000) : Own (w.alloc (.cells cs 5)) B (.slice (some ⟨w.heap.size, 0, none⟩) n n) zs := by
  subst hn
  unfold Own
  rw [← hc]
  have hs : cs.size = zs.length := by rw [← Array.length_toList, hc, vals_len]
  exact World.ownsRow_lit w cs zs.length hB (by unfold maxLen; omega) (by omega)
theorem Own.nw {w w' : World} {B : Nat} {v : Value} {zs : List Int} (h : Own w B v zs) (k : Nw w w') : Own w' B v zs :=
  World.ownsRow.kept h (row := none) ⟨Below.os k, Below.tape k, Below.output k, Below.size k, fun b hb _ => Below.block k b hb⟩ (by cases hv : v.ownBlock <;> simp)
theorem Own.keep {w w' : World} {B : Nat} {u v v' : Value} {zs : List Int} (h : Own w B u zs) (k : Ext v v' w w') (hne : u.ownBlock = none ∨ u.ownBlock ≠ v.ownBlock) : Own w' B u zs :=
  World.ownsRow.kept h k.1 hne
theorem Own.base {w : World} {B B' : Nat} {v : Value} {zs : List Int} (h : Own w B v zs) (hB : B' ≤ B) : Own w B' v zs := by
  refine ⟨h.1, ?_⟩
  rcases h.2 with hn | ⟨g, cap, cur, h1, h2, h3⟩
  · exact Or.inl hn
  · exact Or.inr ⟨g, cap, cur, h1, by omega, h3⟩
theorem Own.lt {w : World} {B : Nat} {v : Value} {zs : List Int} (h : Own w B v zs) : ∀ g, v.ownBlock = some g → B ≤ g ∧ g < w.heap.size := World.ownsRow.lt h
theorem Own.form {w : World} {B : Nat} {v : Value} {zs : List Int} (h : Own w B v zs) : (v = .slice none 0 0 ∧ zs = []) ∨ ∃ g c, v = .slice (some ⟨g, 0, none⟩) zs.length c ∧ B ≤ g ∧ g < w.heap.size ∧ At w g zs := by
  rcases h.2 with ⟨hn, h0⟩ | ⟨g, cap, cur, h1, h2, h3⟩
  · exact Or.inl ⟨hn, List.eq_nil_of_length_eq_zero h0⟩
  · refine Or.inr ⟨g, cap, h1, h2, ?_, ?_⟩
    · subst h1; exact (World.ownsRow.lt h g rfl).2
    · subst h1
      refine ⟨(World.ownsRow.lt h g rfl).2, fun i hi => ?_, fun o => World.ownsRow.frozenAt h o⟩
      rw [Nat.zero_add, World.ownsRow.cellAt h i (by omega)]
      simp [vals, hi]
theorem Own.lies {w : World} {B : Nat} {v : Value} {zs : List Int} (h : Own w B v zs) : Lies B w.heap.size w v zs := by
  rcases h.form with h | ⟨g, c, h1, h2, h3, h4⟩
  · exact Or.inl h
  · exact Or.inr ⟨g, c, h1, h2, h3, h4⟩
theorem At.lie {w : World} {b : Nat} {zs : List Int} (h : At w b zs) : Lie w b 0 zs := ⟨h.1, h.2.1⟩
theorem Own.some {w : World} {B : Nat} {v : Value} {zs : List Int} (h : Own w B v zs) (hz : 0 < zs.length) : ∃ g c, v = .slice (some ⟨g, 0, none⟩) zs.length c ∧ B ≤ g ∧ g < w.heap.size ∧ zs.length ≤ c ∧ c ≤ maxLen ∧ At w g zs := by
  rcases h.form with ⟨_, h⟩ | ⟨g, c, h1, h2, h3, h4⟩
  · subst h; simp at hz
  · rcases h.2 with ⟨hn, h0⟩ | ⟨g', cap, cur, e1, _, _, e2, e3, _⟩
    · omega
    · rw [h1] at e1; injection e1 with _ _ e; subst e
      exact ⟨g, c, h1, h2, h3, e2, e3, h4⟩

theorem lie_add {w : World} {b off : Nat} {zs : List Int} (h : Lie w b off zs) : ∀ j u, (vals zs)[j]? = some u → w.cell? ((⟨b, off, none⟩ : Addr).add j) = some u := by
  intro j u hj
  by_cases hl : j < zs.length
  · have h2 := h.2 j hl
    have e : u = .int .u8 (zs.getD j 0) := by
      simp [vals, hl] at hj; simp [hl]; exact hj.symm
    rw [e, ← h2]
    congr 1
    by_cases h0 : j = 0
    · subst h0; simp [Addr.add]
    · simp [Addr.add, h0]
  · simp [vals] at hj
    obtain ⟨x, hx, _⟩ := hj
    rw [List.getElem?_eq_none (by omega)] at hx
    cases hx
theorem vals_one (zs : List Int) : ∀ u ∈ vals zs, u.oneCell' = true := by
  intro u hu
  simp [vals] at hu
  obtain ⟨x, _, rfl⟩ := hu
  rfl

/-- A list is appended. -/
theorem wp_app (w : World) {ops : Array Oper} {rest : List Oper} {o : Oper} {a : Act} {Q : Exit → Act → World → Prop} (hgd : o.guard = none) (s x : Operand)
    (ho : o.op = .call { callee := .builtin .append, args := #[s, x], argTypes := #[22, 22] })
    (B : Nat) (v : Value) (zs news : List Int) (hs : a.eval s = v) (hown : Own w B v zs) (b off m c : Nat) (hx : a.eval x = .slice (some ⟨b, off, none⟩) m c) (hm : news.length = m) (hl : Lie w b off news)
    (h63 : zs.length + m ≤ 10000000) (hB : B ≤ w.heap.size)
    (h : ∀ v' w', Own w' B v' (zs ++ news) → Ext v v' w w' → wpList Tryd.prog ops Q rest (a.put o.dst v') w') : wpList Tryd.prog ops Q (o :: rest) a w := by
  obtain ⟨i0, hi, hz0, hz1, hz2⟩ := info_parts Tryd.info5
  refine wpList_append_own_at w hgd s x 22 ho B 5 i0 (.int .u8 0) 1 1 Tryd.underlying22 hi hz0 hz1 hz2 rfl (by decide) v zs.length (vals zs) hs hown ⟨b, off, none⟩ m c (vals news) hx (by rw [vals_len]; omega) (lie_add hl) (vals_one news) (by unfold maxLen; omega) (by omega) hB ?_
  intro v' w' h1 h2 h3 h4
  refine h v' w' ?_ ⟨h2, h4.imp id fun e => ⟨_, e, Nat.le_refl _⟩⟩
  unfold Own
  rw [List.length_append, vals_append, hm]
  exact h1

def strInts (s : ByteArray) : List Int := s.data.toList.map fun b => (b.toNat : Int)
theorem strInts_len (s : ByteArray) : (strInts s).length = s.size := by simp [strInts]
theorem strInts_vals (s : ByteArray) : vals (strInts s) = Lib.strCells s := by simp [vals, strInts, Lib.strCells]
theorem run_str (w : World) (ty : TypeId) (B : Nat) (g n c : Nat) (zs : List Int) (hown : Own w B (.slice (some ⟨g, 0, none⟩) n c) zs) (s : ByteArray) (h63 : zs.length + s.size ≤ 10000000) (hB : B ≤ w.heap.size) :
    ∃ v' w', (Builtin.append_ #[22, 9] ty #[.slice (some ⟨g, 0, none⟩) n c, .string s]).run Tryd.prog w = .ok v' w' ∧ Own w' B v' (zs ++ strInts s) ∧ Ext (.slice (some ⟨g, 0, none⟩) n c) v' w w' := by
  obtain ⟨i0, hi, hz0, hz1, hz2⟩ := info_parts Tryd.info5
  have hu : Tryd.prog.underlying 9 = some .string := Tryd.underlying9
  obtain ⟨v', w', hr, h1, h2, h3⟩ := Lib.run_append_own_string (P := Tryd.prog) w B 22 9 ty 5 i0 Tryd.underlying22 hu hi hz0 hz1 hz2 _ zs.length (vals zs) hown s (by unfold maxLen; omega) (by omega) hB
  refine ⟨v', w', hr, ?_, h2, ?_⟩
  · unfold Own
    rw [List.length_append, vals_append, strInts_len, strInts_vals]
    exact h1
  · rcases hown.2 with ⟨hn, _⟩ | ⟨g', cap, cur, e, hbg, hg, hnc, hcm, hcs, htake⟩
    · cases hn
    · injection e with e1 e2 e3
      injection e1 with e1
      injection e1 with e1
      subst e1 e2 e3
      by_cases hroom : zs.length + s.size ≤ c
      · have hr2 := Lib.run_append_room_string (P := Tryd.prog) w 22 9 ty 5 i0 Tryd.underlying22 hu hi hz1 g zs.length c cur hg s hroom (by omega)
        rw [hr] at hr2
        injection hr2 with e1 e2
        subst e1
        exact Or.inl rfl
      · have hr2 := Lib.run_append_grow_string (P := Tryd.prog) w 22 9 ty 5 i0 (.int .u8 0) Tryd.underlying22 hu hi hz0 ⟨g, 0, none⟩ zs.length c (vals zs) (by rw [hz1, vals_len]; omega) (World.ownsRow.cells hown rfl) s (by omega) (by omega) (by rw [hz2]; exact growslice_fits (by omega) (by omega))
        rw [hr] at hr2
        injection hr2 with e1 e2
        subst e1
        exact Or.inr ⟨_, rfl, Nat.le_refl _⟩
/-- A text is appended. -/
theorem wp_str (w : World) {ops : Array Oper} {rest : List Oper} {o : Oper} {a : Act} {Q : Exit → Act → World → Prop} (hgd : o.guard = none) (sl x : Operand)
    (ho : o.op = .call { callee := .builtin .append, args := #[sl, x], argTypes := #[22, 9] })
    (B : Nat) (g n c : Nat) (zs : List Int) (hs : a.eval sl = .slice (some ⟨g, 0, none⟩) n c) (hown : Own w B (.slice (some ⟨g, 0, none⟩) n c) zs) (s : ByteArray) (hx : a.eval x = .string s)
    (h63 : zs.length + s.size ≤ 10000000) (hB : B ≤ w.heap.size)
    (h : ∀ v' w', Own w' B v' (zs ++ strInts s) → Ext (.slice (some ⟨g, 0, none⟩) n c) v' w w' → wpList Tryd.prog ops Q rest (a.put o.dst v') w') : wpList Tryd.prog ops Q (o :: rest) a w := by
  refine wpList_plain hgd fun K hK => ?_
  obtain ⟨v', w', hr, h1, h2⟩ := run_str w o.type B g n c zs hown s h63 hB
  unfold Oper.wp execOp
  simp only [ho, resolve, invoke, builtin, Sem.run_bind, Sem.run_pure, Result.andThen_ok, List.map_toArray, List.map_cons, List.map_nil, hs, hx, hr]
  exact hK _ _ (h v' w' h1 h2)
end Go.Proofs.YteehoihkbcbbgaaDoor
