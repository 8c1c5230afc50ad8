/-
  Lists of bytes of the call's own, to which is appended, and what leaves them as they are; each theorem names its conditions.
-/
import Derived.Test.YthlohbiocfeapaaLieB
import Derived.Test.YthlohbiocfeapaaExt
import Derived.Test.YthlohbiocfeapaaFrameB
import Derived.Maps.AppendAt
import Derived.Lib.AppendStr
import Derived.Deep.Upon
import Derived.OwnWalk
import Derived.Handy
namespace Go.Proofs.Ythlohbiocfeapaa
open Go.ChangeShapes Go.WideShapes Go.ChangeAt Go.RowKit
set_option linter.unusedVariables false

def vals (zs : List Int) : List Value := zs.map (Value.int .u8)
theorem vals_append (xs ys : List Int) : vals (xs ++ ys) = vals xs ++ vals ys := by simp [vals]
theorem vals_len (xs : List Int) : (vals xs).length = xs.length := by simp [vals]
/-- The bytes zs in a list of the call's own, nil or in a block from B on. -/
def Own (w : World) (B : Nat) (v : Value) (zs : List Int) : Prop := w.ownsRow B 5 1 v zs.length (vals zs)
theorem Ext.lie {v v' : Value} {w w' : World} {b off : Nat} {zs : List Int} (h : Ext v v' w w') (k : Lie w b off zs) (hne : v.ownBlock ≠ some b) : Lie w' b off zs :=
  ⟨Nat.lt_of_lt_of_le k.1 h.1.size, fun i hi => (World.cell?_of_block (w := w) (a := ⟨b, off + i, none⟩) (h.1.block b k.1 (fun e => hne e.symm))).trans (k.2 i hi)⟩

theorem Own.nil (w : World) (B : Nat) : Own w B (.slice none 0 0) [] := World.ownsRow_nil w B _ 1
theorem Own.lit (w : World) (B : Nat) (zs : List Int) (n : Nat) (cs : Array Value) (hc : cs.toList = vals zs) (hn : zs.length = n) (hB : B ≤ w.heap.size) (hl : n ≤ 1000000) : Own (w.alloc (.cells cs 5)) B (.slice (some ⟨w.heap.size, 0, none⟩) n n) zs := by
  subst hn
  unfold Own
  rw [← hc]
  have hs : cs.size = zs.length := by rw [← Array.length_toList, hc, vals_len]
  exact World.ownsRow_lit w cs zs.length hB (by unfold maxLen; omega) (by omega)
theorem Own.nw {w w' : World} {B : Nat} {v : Value} {zs : List Int} (h : Own w B v zs) (k : Nw w w') : Own w' B v zs :=
  World.ownsRow.kept h (row := none) ⟨Below.os k, Below.tape k, Below.output k, Below.size k, fun b hb _ => Below.block k b hb⟩ (by cases hv : v.ownBlock <;> simp)
theorem Own.keep {w w' : World} {B : Nat} {u v v' : Value} {zs : List Int} (h : Own w B u zs) (k : Ext v v' w w') (hne : u.ownBlock = none ∨ u.ownBlock ≠ v.ownBlock) : Own w' B u zs :=
  World.ownsRow.kept h k.1 hne
theorem Own.base {w : World} {B B' : Nat} {v : Value} {zs : List Int} (h : Own w B v zs) (hB : B' ≤ B) : Own w B' v zs := by
  refine ⟨h.1, ?_⟩
  rcases h.2 with hn | ⟨g, cap, cur, h1, h2, h3⟩
  · exact Or.inl hn
  · exact Or.inr ⟨g, cap, cur, h1, by omega, h3⟩
theorem Own.lt {w : World} {B : Nat} {v : Value} {zs : List Int} (h : Own w B v zs) : ∀ g, v.ownBlock = some g → B ≤ g ∧ g < w.heap.size := World.ownsRow.lt h
theorem Own.form {w : World} {B : Nat} {v : Value} {zs : List Int} (h : Own w B v zs) : (v = .slice none 0 0 ∧ zs = []) ∨ ∃ g c, v = .slice (some ⟨g, 0, none⟩) zs.length c ∧ B ≤ g ∧ g < w.heap.size ∧ At w g zs := by
  rcases h.2 with ⟨hn, h0⟩ | ⟨g, cap, cur, h1, h2, h3⟩
  · exact Or.inl ⟨hn, List.eq_nil_of_length_eq_zero h0⟩
  · refine Or.inr ⟨g, cap, h1, h2, ?_, ?_⟩
    · subst h1; exact (World.ownsRow.lt h g rfl).2
    · subst h1
      refine ⟨(World.ownsRow.lt h g rfl).2, fun i hi => ?_, fun o => World.ownsRow.frozenAt h o⟩
      rw [Nat.zero_add, World.ownsRow.cellAt h i (by omega)]
      simp [vals, hi]
theorem Own.lies {w : World} {B : Nat} {v : Value} {zs : List Int} (h : Own w B v zs) : Lies B w.heap.size w v zs := by
  rcases h.form with h | ⟨g, c, h1, h2, h3, h4⟩
  · exact Or.inl h
  · exact Or.inr ⟨g, c, h1, h2, h3, h4⟩
theorem At.lie {w : World} {b : Nat} {zs : List Int} (h : At w b zs) : Lie w b 0 zs := ⟨h.1, h.2.1⟩
theorem Own.some {w : World} {B : Nat} {v : Value} {zs : List Int} (h : Own w B v zs) (hz : 0 < zs.length) : ∃ g c, v = .slice (some ⟨g, 0, none⟩) zs.length c ∧ B ≤ g ∧ g < w.heap.size ∧ zs.length ≤ c ∧ c ≤ maxLen ∧ At w g zs := by
  rcases h.form with ⟨_, h⟩ | ⟨g, c, h1, h2, h3, h4⟩
  · subst h; simp at hz
  · rcases h.2 with ⟨hn, h0⟩ | ⟨g', cap, cur, e1, _, _, e2, e3, _⟩
    · omega
    · rw [h1] at e1; injection e1 with _ _ e; subst e
      exact ⟨g, c, h1, h2, h3, e2, e3, h4⟩

theorem lie_add {w : World} {b off : Nat} {zs : List Int} (h : Lie w b off zs) : ∀ j u, (vals zs)[j]? = some u → w.cell? ((⟨b, off, none⟩ : Addr).add j) = some u := by
  intro j u hj
  by_cases hl : j < zs.length
  · have h2 := h.2 j hl
    have e : u = .int .u8 (zs.getD j 0) := by
      simp [vals, hl] at hj; simp [hl]; exact hj.symm
    rw [e, ← h2]
    congr 1
    by_cases h0 : j = 0
    · subst h0; simp [Addr.add]
    · simp [Addr.add, h0]
  · simp [vals] at hj
    obtain ⟨x, hx, _⟩ := hj
    rw [List.getElem?_eq_none (by omega)] at hx
    cases hx
theorem vals_one (zs : List Int) : ∀ u ∈ vals zs, u.oneCell' = true := by
  intro u hu
  simp [vals] at hu
  obtain ⟨x, _, rfl⟩ := hu
  rfl

/-- A list is appended. -/
theorem wp_app (w : World) {ops : Array Oper} {rest : List Oper} {o : Oper} {a : Act} {Q : Exit → Act → World → Prop} (hgd : o.guard = none) (s x : Operand)
    (ho : o.op = .call { callee := .builtin .append, args := #[s, x], argTypes := #[22, 22] })
    (B : Nat) (v : Value) (zs news : List Int) (hs : a.eval s = v) (hown : Own w B v zs) (b off m c : Nat) (hx : a.eval x = .slice (some ⟨b, off, none⟩) m c) (hm : news.length = m) (hl : Lie w b off news)
    (h63 : zs.length + m ≤ 10000000) (hB : B ≤ w.heap.size)
    (h : ∀ v' w', Own w' B v' (zs ++ news) → Ext v v' w w' → wpList Try.prog ops Q rest (a.put o.dst v') w') : wpList Try.prog ops Q (o :: rest) a w := by
  obtain ⟨i0, hi, hz0, hz1, hz2⟩ := info_parts Try.info5
  refine wpList_append_own_at w hgd s x 22 ho B 5 i0 (.int .u8 0) 1 1 Try.underlying22 hi hz0 hz1 hz2 rfl (by decide) v zs.length (vals zs) hs hown ⟨b, off, none⟩ m c (vals news) hx (by rw [vals_len]; omega) (lie_add hl) (vals_one news) (by unfold maxLen; omega) (by omega) hB ?_
  intro v' w' h1 h2 h3 h4
  refine h v' w' ?_ ⟨h2, h4.imp id fun e => ⟨_, e, Nat.le_refl _⟩⟩
  unfold Own
  rw [List.length_append, vals_append, hm]
  exact h1

def strInts (s : ByteArray) : List Int := s.data.toList.map fun b => (b.toNat : Int)
theorem strInts_len (s : ByteArray) : (strInts s).length = s.size := by simp [strInts]
theorem strInts_vals (s : ByteArray) : vals (strInts s) = Lib.strCells s := by simp [vals, strInts, Lib.strCells]
theorem run_str (w : World) (ty : TypeId) (B : Nat) (g n c : Nat) (zs : List Int) (hown : Own w B (.slice (some ⟨g, 0, none⟩) n c) zs) (s : ByteArray) (h63 : zs.length + s.size ≤ 10000000) (hB : B ≤ w.heap.size) :
    ∃ v' w', (Builtin.append_ #[22, 9] ty #[.slice (some ⟨g, 0, none⟩) n c, .string s]).run Try.prog w = .ok v' w' ∧ Own w' B v' (zs ++ strInts s) ∧ Ext (.slice (some ⟨g, 0, none⟩) n c) v' w w' := by
  obtain ⟨i0, hi, hz0, hz1, hz2⟩ := info_parts Try.info5
  have hu : Try.prog.underlying 9 = some .string := Try.underlying9
  obtain ⟨v', w', hr, h1, h2, h3⟩ := Lib.run_append_own_string (P := Try.prog) w B 22 9 ty 5 i0 Try.underlying22 hu hi hz0 hz1 hz2 _ zs.length (vals zs) hown s (by unfold maxLen; omega) (by omega) hB
  refine ⟨v', w', hr, ?_, h2, ?_⟩
  · unfold Own
    rw [List.length_append, vals_append, strInts_len, strInts_vals]
    exact h1
  · rcases hown.2 with ⟨hn, _⟩ | ⟨g', cap, cur, e, hbg, hg, hnc, hcm, hcs, htake⟩
    · cases hn
    · injection e with e1 e2 e3
      injection e1 with e1
      injection e1 with e1
      subst e1 e2 e3
      by_cases hroom : zs.length + s.size ≤ c
      · have hr2 := Lib.run_append_room_string (P := Try.prog) w 22 9 ty 5 i0 Try.underlying22 hu hi hz1 g zs.length c cur hg s hroom (by omega)
        rw [hr] at hr2
        injection hr2 with e1 e2
        subst e1
        exact Or.inl rfl
      · have hr2 := Lib.run_append_grow_string (P := Try.prog) w 22 9 ty 5 i0 (.int .u8 0) Try.underlying22 hu hi hz0 ⟨g, 0, none⟩ zs.length c (vals zs) (by rw [hz1, vals_len]; omega) (World.ownsRow.cells hown rfl) s (by omega) (by omega) (by rw [hz2]; exact growslice_fits (by omega) (by omega))
        rw [hr] at hr2
        injection hr2 with e1 e2
        subst e1
        exact Or.inr ⟨_, rfl, Nat.le_refl _⟩
/-- A text is appended. -/
theorem wp_str (w : World) {ops : Array Oper} {rest : List Oper} {o : Oper} {a : Act} {Q : Exit → Act → World → Prop} (hgd : o.guard = none) (sl x : Operand)
    (ho : o.op = .call { callee := .builtin .append, args := #[sl, x], argTypes := #[22, 9] })
    (B : Nat) (g n c : Nat) (zs : List Int) (hs : a.eval sl = .slice (some ⟨g, 0, none⟩) n c) (hown : Own w B (.slice (some ⟨g, 0, none⟩) n c) zs) (s : ByteArray) (hx : a.eval x = .string s)
    (h63 : zs.length + s.size ≤ 10000000) (hB : B ≤ w.heap.size)
    (h : ∀ v' w', Own w' B v' (zs ++ strInts s) → Ext (.slice (some ⟨g, 0, none⟩) n c) v' w w' → wpList Try.prog ops Q rest (a.put o.dst v') w') : wpList Try.prog ops Q (o :: rest) a w := by
  refine wpList_plain hgd fun K hK => ?_
  obtain ⟨v', w', hr, h1, h2⟩ := run_str w o.type B g n c zs hown s h63 hB
  unfold Oper.wp execOp
  simp only [ho, resolve, invoke, builtin, Sem.run_bind, Sem.run_pure, Result.andThen_ok, List.map_toArray, List.map_cons, List.map_nil, hs, hx, hr]
  exact hK _ _ (h v' w' h1 h2)
end Go.Proofs.Ythlohbiocfeapaa
