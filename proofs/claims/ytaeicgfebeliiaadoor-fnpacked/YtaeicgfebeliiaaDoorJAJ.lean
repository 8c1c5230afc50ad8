/-
  Lists of bytes of the call's own, to which is appended, and what leaves them as they are; each theorem names its conditions.
  What is repeated is appended by the program; each theorem names its conditions.
  The books of the fixed codes, on lists; each theorem names its conditions.
  Lists of numbers of the call's own, to which numbers are appended; and what the laws' helpers do that hold two such lists against each other, mark one and look for the marks; each theorem names its conditions.
-/
import Derived.Test.YtaeicgfebeliiaaDoorJAI
import Derived.Maps.AppendAt
import Derived.Lib.AppendStr
import Derived.Deep.Upon
import Derived.OwnWalk
import Derived.Handy
import Derived.Test.YtaeicgfebeliiaaDoorJAF
import Derived.Test.YtaeicgfebeliiaaDoorJAD
namespace Go.Proofs.YtaeicgfebeliiaaDoor
open Go.ChangeShapes Go.WideShapes Go.ChangeAt Go.RowKit
set_option linter.unusedVariables false

def vals (zs : List Int) : List Value := zs.map (Value.int .u8)
theorem vals_append (xs ys : List Int) : vals (xs ++ ys) = vals xs ++ vals ys := by simp [vals]
theorem vals_len (xs : List Int) : (vals xs).length = xs.length := by simp [vals]
/-- The bytes zs in a list of the call's own, nil or in a block from B on. -/
def Own (w : World) (B : Nat) (v : Value) (zs : List Int) : Prop := w.ownsRow B 5 1 v zs.length (vals zs)
theorem Ext.lie {v v' : Value} {w w' : World} {b off : Nat} {zs : List Int} (h : Ext v v' w w') (k : Lie w b off zs) (hne : v.ownBlock ≠ some b) : Lie w' b off zs :=
  ⟨Nat.lt_of_lt_of_le k.1 h.1.size, fun i hi => (World.cell?_of_block (w := w) (a := ⟨b, off + i, none⟩) (h.1.block b k.1 (fun e => hne e.symm))).trans (k.2 i hi)⟩

theorem Own.nil (w : World) (B : Nat) : Own w B (.slice none 0 0) [] := World.ownsRow_nil w B _ 1
theorem Own.lit (w : World) (B : Nat) (zs : List Int) (n : Nat) (cs : Array Value) (hc : cs.toList = vals zs) (hn : zs.length = n) (hB : B ≤ w.heap.size) (hl : n ≤ 1000000) : Own (w.alloc (.cells cs 5)) B (.slice (some ⟨w.heap.size, 0, none⟩) n n) zs := by
  subst hn
  unfold Own
  rw [← hc]
  have hs : cs.size = zs.length := by rw [← Array.length_toList, hc, vals_len]
  exact World.ownsRow_lit w cs zs.length hB (by unfold maxLen; omega) (by omega)
theorem Own.nw {w w' : World} {B : Nat} {v : Value} {zs : List Int} (h : Own w B v zs) (k : Nw w w') : Own w' B v zs :=
  World.ownsRow.kept h (row := none) ⟨Below.os k, Below.tape k, Below.output k, Below.size k, fun b hb _ => Below.block k b hb⟩ (by cases hv : v.ownBlock <;> simp)
theorem Own.keep {w w' : World} {B : Nat} {u v v' : Value} {zs : List Int} (h : Own w B u zs) (k : Ext v v' w w') (hne : u.ownBlock = none ∨ u.ownBlock ≠ v.ownBlock) : Own w' B u zs :=
  World.ownsRow.kept h k.1 hne
theorem Own.base {w : World} {B B' : Nat} {v : Value} {zs : List Int} (h : Own w B v zs) (hB : B' ≤ B) : Own w B' v zs := by
  refine ⟨h.1, ?_⟩
  rcases h.2 with hn | ⟨g, cap, cur, h1, h2, h3⟩
  · exact Or.inl hn
  · exact Or.inr ⟨g, cap, cur, h1, by omega, h3⟩
theorem Own.lt {w : World} {B : Nat} {v : Value} {zs : List Int} (h : Own w B v zs) : ∀ g, v.ownBlock = some g → B ≤ g ∧ g < w.heap.size := World.ownsRow.lt h
theorem Own.form {w : World} {B : Nat} {v : Value} {zs : List Int} (h : Own w B v zs) : (v = .slice none 0 0 ∧ zs = []) ∨ ∃ g c, v = .slice (some ⟨g, 0, none⟩) zs.length c ∧ B ≤ g ∧ g < w.heap.size ∧ At w g zs := by
  rcases h.2 with ⟨hn, h0⟩ | ⟨g, cap, cur, h1, h2, h3⟩
  · exact Or.inl ⟨hn, List.eq_nil_of_length_eq_zero h0⟩
  · refine Or.inr ⟨g, cap, h1, h2, ?_, ?_⟩
    · subst h1; exact (World.ownsRow.lt h g rfl).2
    · subst h1
      refine ⟨(World.ownsRow.lt h g rfl).2, fun i hi => ?_, fun o => World.ownsRow.frozenAt h o⟩
      rw [Nat.zero_add, World.ownsRow.cellAt h i (by omega)]
      simp [vals, hi]
theorem Own.lies {w : World} {B : Nat} {v : Value} {zs : List Int} (h : Own w B v zs) : Lies B w.heap.size w v zs := by
  rcases h.form with h | ⟨g, c, h1, h2, h3, h4⟩
  · exact Or.inl h
  · exact Or.inr ⟨g, c, h1, h2, h3, h4⟩
theorem At.lie {w : World} {b : Nat} {zs : List Int} (h : At w b zs) : Lie w b 0 zs := ⟨h.1, h.2.1⟩
theorem Own.some {w : World} {B : Nat} {v : Value} {zs : List Int} (h : Own w B v zs) (hz : 0 < zs.length) : ∃ g c, v = .slice (some ⟨g, 0, none⟩) zs.length c ∧ B ≤ g ∧ g < w.heap.size ∧ zs.length ≤ c ∧ c ≤ maxLen ∧ At w g zs := by
  rcases h.form with ⟨_, h⟩ | ⟨g, c, h1, h2, h3, h4⟩
  · subst h; simp at hz
  · rcases h.2 with ⟨hn, h0⟩ | ⟨g', cap, cur, e1, _, _, e2, e3, _⟩
    · omega
    · rw [h1] at e1; injection e1 with _ _ e; subst e
      exact ⟨g, c, h1, h2, h3, e2, e3, h4⟩

theorem lie_add {w : World} {b off : Nat} {zs : List Int} (h : Lie w b off zs) : ∀ j u, (vals zs)[j]? = some u → w.cell? ((⟨b, off, none⟩ : Addr).add j) = some u := by
  intro j u hj
  by_cases hl : j < zs.length
  · have h2 := h.2 j hl
    have e : u = .int .u8 (zs.getD j 0) := by
      simp [vals, hl] at hj; simp [hl]; exact hj.symm
    rw [e, ← h2]
    congr 1
    by_cases h0 : j = 0
    · subst h0; simp [Addr.add]
    · simp [Addr.add, h0]
  · simp [vals] at hj
    obtain ⟨x, hx, _⟩ := hj
    rw [List.getElem?_eq_none (by omega)] at hx
    cases hx
theorem vals_one (zs : List Int) : ∀ u ∈ vals zs, u.oneCell' = true := by
  intro u hu
  simp [vals] at hu
  obtain ⟨x, _, rfl⟩ := hu
  rfl

/-- A list is appended. -/
theorem wp_app (w : World) {ops : Array Oper} {rest : List Oper} {o : Oper} {a : Act} {Q : Exit → Act → World → Prop} (hgd : o.guard = none) (s x : Operand)
    (ho : o.op = .call { callee := .builtin .append, args := #[s, x], argTypes := #[22, 22] })
    (B : Nat) (v : Value) (zs news : List Int) (hs : a.eval s = v) (hown : Own w B v zs) (b off m c : Nat) (hx : a.eval x = .slice (some ⟨b, off, none⟩) m c) (hm : news.length = m) (hl : Lie w b off news)
    (h63 : zs.length + m ≤ 10000000) (hB : B ≤ w.heap.size)
    (h : ∀ v' w', Own w' B v' (zs ++ news) → Ext v v' w w' → wpList Tryd.prog ops Q rest (a.put o.dst v') w') : wpList Tryd.prog ops Q (o :: rest) a w := by
  obtain ⟨i0, hi, hz0, hz1, hz2⟩ := info_parts Tryd.info5
  refine wpList_append_own_at w hgd s x 22 ho B 5 i0 (.int .u8 0) 1 1 Tryd.underlying22 hi hz0 hz1 hz2 rfl (by decide) v zs.length (vals zs) hs hown ⟨b, off, none⟩ m c (vals news) hx (by rw [vals_len]; omega) (lie_add hl) (vals_one news) (by unfold maxLen; omega) (by omega) hB ?_
  intro v' w' h1 h2 h3 h4
  refine h v' w' ?_ ⟨h2, h4.imp id fun e => ⟨_, e, Nat.le_refl _⟩⟩
  unfold Own
  rw [List.length_append, vals_append, hm]
  exact h1

def strInts (s : ByteArray) : List Int := s.data.toList.map fun b => (b.toNat : Int)
theorem strInts_len (s : ByteArray) : (strInts s).length = s.size := by simp [strInts]
theorem strInts_vals (s : ByteArray) : vals (strInts s) = Lib.strCells s := by simp [vals, strInts, Lib.strCells]
theorem run_str (w : World) (ty : TypeId) (B : Nat) (g n c : Nat) (zs : List Int) (hown : Own w B (.slice (some ⟨g, 0, none⟩) n c) zs) (s : ByteArray) (h63 : zs.length + s.size ≤ 10000000) (hB : B ≤ w.heap.size) :
    ∃ v' w', (Builtin.append_ #[22, 9] ty #[.slice (some ⟨g, 0, none⟩) n c, .string s]).run Tryd.prog w = .ok v' w' ∧ Own w' B v' (zs ++ strInts s) ∧ Ext (.slice (some ⟨g, 0, none⟩) n c) v' w w' := by
  obtain ⟨i0, hi, hz0, hz1, hz2⟩ := info_parts Tryd.info5
  have hu : Tryd.prog.underlying 9 = some .string := Tryd.underlying9
  obtain ⟨v', w', hr, h1, h2, h3⟩ := Lib.run_append_own_string (P := Tryd.prog) w B 22 9 ty 5 i0 Tryd.underlying22 hu hi hz0 hz1 hz2 _ zs.length (vals zs) hown s (by unfold maxLen; omega) (by omega) hB
  refine ⟨v', w', hr, ?_, h2, ?_⟩
  · unfold Own
    rw [List.length_append, vals_append, strInts_len, strInts_vals]
    exact h1
  · rcases hown.2 with ⟨hn, _⟩ | ⟨g', cap, cur, e, hbg, hg, hnc, hcm, hcs, htake⟩
    · cases hn
    · injection e with e1 e2 e3
      injection e1 with e1
      injection e1 with e1
      subst e1 e2 e3
      by_cases hroom : zs.length + s.size ≤ c
      · have hr2 := Lib.run_append_room_string (P := Tryd.prog) w 22 9 ty 5 i0 Tryd.underlying22 hu hi hz1 g zs.length c cur hg s hroom (by omega)
        rw [hr] at hr2
        injection hr2 with e1 e2
        subst e1
        exact Or.inl rfl
      · have hr2 := Lib.run_append_grow_string (P := Tryd.prog) w 22 9 ty 5 i0 (.int .u8 0) Tryd.underlying22 hu hi hz0 ⟨g, 0, none⟩ zs.length c (vals zs) (by rw [hz1, vals_len]; omega) (World.ownsRow.cells hown rfl) s (by omega) (by omega) (by rw [hz2]; exact growslice_fits (by omega) (by omega))
        rw [hr] at hr2
        injection hr2 with e1 e2
        subst e1
        exact Or.inr ⟨_, rfl, Nat.le_refl _⟩
/-- A text is appended. -/
theorem wp_str (w : World) {ops : Array Oper} {rest : List Oper} {o : Oper} {a : Act} {Q : Exit → Act → World → Prop} (hgd : o.guard = none) (sl x : Operand)
    (ho : o.op = .call { callee := .builtin .append, args := #[sl, x], argTypes := #[22, 9] })
    (B : Nat) (g n c : Nat) (zs : List Int) (hs : a.eval sl = .slice (some ⟨g, 0, none⟩) n c) (hown : Own w B (.slice (some ⟨g, 0, none⟩) n c) zs) (s : ByteArray) (hx : a.eval x = .string s)
    (h63 : zs.length + s.size ≤ 10000000) (hB : B ≤ w.heap.size)
    (h : ∀ v' w', Own w' B v' (zs ++ strInts s) → Ext (.slice (some ⟨g, 0, none⟩) n c) v' w w' → wpList Tryd.prog ops Q rest (a.put o.dst v') w') : wpList Tryd.prog ops Q (o :: rest) a w := by
  refine wpList_plain hgd fun K hK => ?_
  obtain ⟨v', w', hr, h1, h2⟩ := run_str w o.type B g n c zs hown s h63 hB
  unfold Oper.wp execOp
  simp only [ho, resolve, invoke, builtin, Sem.run_bind, Sem.run_pure, Result.andThen_ok, List.map_toArray, List.map_cons, List.map_nil, hs, hx, hr]
  exact hK _ _ (h v' w' h1 h2)
end Go.Proofs.YtaeicgfebeliiaaDoor
namespace Go.Proofs.YtaeicgfebeliiaaDoor
open Go.ChangeShapes Go.WideShapes Go.ChangeAt Go.RowKit
set_option linter.unusedVariables false

/-- A byte is appended. -/
theorem wp_b (w : World) {ops : Array Oper} {rest : List Oper} {o : Oper} {a : Act} {Q : Exit → Act → World → Prop} (hgd : o.guard = none) (s x : Operand)
    (ho : o.op = .call { callee := .builtin .append, args := #[s, x], argTypes := #[22, 22] })
    (B : Nat) (v : Value) (zs : List Int) (t : Int) (hs : a.eval s = v) (hown : Own w B v zs) (g : Nat) (hx : a.eval x = .slice (some ⟨g, 0, none⟩) 1 1) (hc : w.cell? ⟨g, 0, none⟩ = some (.int .u8 t))
    (h63 : zs.length ≤ 1000000) (hB : B ≤ w.heap.size)
    (h : ∀ v' w', Own w' B v' (zs ++ [t]) → Ext v v' w w' → wpList Tryd.prog ops Q rest (a.put o.dst v') w') : wpList Tryd.prog ops Q (o :: rest) a w :=
  wp_app w hgd s x ho B v zs [t] hs hown g 0 1 1 hx rfl ⟨World.block_lt_of_cell? w ⟨g, 0, none⟩ hc, fun i hi => by
    have e : i = 0 := by simpa using hi
    subst e
    simpa using hc⟩ (by omega) hB h
theorem Own.shape {w : World} {B : Nat} {v : Value} {zs : List Int} (h : Own w B v zs) : ∃ a c, v = .slice a zs.length c := by
  rcases h.form with ⟨rfl, rfl⟩ | ⟨g, c, rfl, _⟩
  · exact ⟨none, 0, rfl⟩
  · exact ⟨_, c, rfl⟩
set_option maxHeartbeats 4000000 in
theorem repeat_any (w : World) (B : Nat) (v : Value) (zs : List Int) (n d : Nat) (hB : B ≤ w.heap.size) (ho : Own w B v zs) (h1 : 1 ≤ d) (hd : d ≤ zs.length) (hn : zs.length + n ≤ 6000) :
    Calls Tryd.prog 80 #[v, .int .i64 n, .int .i64 d] w fun e w' => ∃ v', e = .returned (.tuple #[v', .int .i64 0]) ∧ Own w' B v' (rep zs d n) ∧ Ext v v' w w' := by
  obtain ⟨g0, c0, rfl, _⟩ := ho.some (by omega)
  have HO0 : Hid _ := ho
  have HL : Hid (∀ k, (rep zs d k).length = zs.length + k) := rep_len zs d
  have dd1 : decide ((zs.length : Int) < (d : Int)) = false := by simp; omega
  have dd2 : decide (zs.length < d) = false := by simp; omega
  clear ho
  go_enter Tryd.func80, Tryd.ntmps80
  go_wp2
  go_loopw [0, 13] (fun v i wr => ∃ k : Nat, k ≤ n ∧ i = .int .i64 k ∧ Own wr B v (rep zs d k) ∧ Ext (.slice (some ⟨g0, 0, none⟩) zs.length c0) v w wr) (fun _ i _ => n - (intOf i).toNat)
  case atStart => exact ⟨0, Nat.zero_le _, rfl, HO0.out, Ext.refl _ _⟩
  case round =>
    obtain ⟨k, hk, rfl, ho, he⟩ := hrel
    have hlk := HL.out k
    obtain ⟨g, c, rfl, hg1, hg2, hg3, hg4, hA⟩ := ho.some (by omega)
    have HO : Hid _ := ho
    have HE : Hid _ := he
    have hsz : B ≤ wr.heap.size := by have := he.size; omega
    clear ho he
    by_cases hlt : k < n
    · obtain ⟨I, hI⟩ : ∃ I, zs.length + k - d = I := ⟨_, rfl⟩
      have hx := hA.2.1 I (by omega)
      rw [Nat.zero_add] at hx
      have HS : Hid (rep zs d (k + 1) = rep zs d k ++ [(rep zs d k).getD I 0]) := by show _ = _; rw [← hI]; rfl
      have hII : ((rep zs d k).length : Int) - (d : Int) = (I : Int) := by omega
      have him : I < (rep zs d k).length := by omega
      have hwI : wrap64 (I : Int) = (I : Int) := IntWalk.wrap64_in _ ⟨by omega, by omega⟩
      have hm6 : (((rep zs d k).length : Int) == 6000) = false := by rw [beq_eq_false_iff_ne]; omega
      obtain ⟨x, hxx⟩ : ∃ x, (rep zs d k).getD I 0 = x := ⟨_, rfl⟩
      rw [hxx] at hx HS
      have HB0 : ∀ o, Hid (Nw wr (wr.alloc o)) := fun o => (Below.refl _ _).alloc (Nat.le_refl _) o
      have hol : (rep zs d k).length ≤ 1000000 := by omega
      clear hA hI hlk hxx
      generalize rep zs d k = L at *
      go_wp2_with (at_builtin; (refine wp_b _ rfl _ _ rfl B _ L x rfl (Own.nw HO.out (HB0 _).out) _ rfl ?c1 hol ?c3 ?_))
      case c1 => simp
      case c3 => exact Nat.le_trans hsz (Below.size (HB0 _).out)
      intro v' w' h1 h2
      have HO2 : Hid (Own w' B v' (rep zs d (k + 1))) := by show Own _ _ _ _; rw [HS.out]; exact h1
      have HE2 : Hid (Ext (.slice (some ⟨g0, 0, none⟩) zs.length c0) v' w w') := Ext.trans HE.out (Nw.ext (HB0 _).out h2)
      clear h1 h2
      go_wp2
      go_roundw
      case rel => exact ⟨k + 1, by omega, by go_num, HO2.out, HE2.out⟩
      case measure => simp [intOf]; omega
    · have e : k = n := by omega
      subst e
      go_wp2
      go_ret2
      exact ⟨_, rfl, HO.out, HE.out⟩
end Go.Proofs.YtaeicgfebeliiaaDoor
namespace Go.Proofs.YtaeicgfebeliiaaDoor
open Go.ChangeShapes Go.WideShapes Go.ChangeAt Go.RowKit
set_option linter.unusedVariables false

/-- The first n symbols that have the length l. -/
def ofLen (xs : List Int) (l n : Nat) : List Nat := (List.range n).filter (fun k => decide (xs.getD k 0 = (l : Int)))
theorem ofLen_yes (xs : List Int) (l n : Nat) (h : xs.getD n 0 = (l : Int)) : ofLen xs l (n + 1) = ofLen xs l n ++ [n] := by
  unfold ofLen; rw [List.range_succ, List.filter_append]; congr 1; simp only [List.filter_cons, List.filter_nil, h, decide_true, if_true]
theorem ofLen_no (xs : List Int) (l n : Nat) (h : xs.getD n 0 ≠ (l : Int)) : ofLen xs l (n + 1) = ofLen xs l n := by
  unfold ofLen; rw [List.range_succ, List.filter_append]; simp only [List.filter_cons, List.filter_nil, decide_eq_false h]; simp
/-- The symbols of the lengths 1 .. l. -/
def booked (xs : List Int) : Nat → List Nat
  | 0 => []
  | l + 1 => booked xs l ++ ofLen xs (l + 1) xs.length
def fiveL : List Int := List.replicate 32 5
set_option maxRecDepth 100000 in
theorem booked_fixed : booked fixedL 15 = syF := by decide +kernel
theorem booked_five : booked fiveL 15 = syD := by decide +kernel
set_option maxRecDepth 100000 in
theorem cn_fixed : (List.range 16).all (fun l => decide (cn fixedL 288 l = (cnF l : Int))) = true := by decide +kernel
theorem cn_five : (List.range 16).all (fun l => decide (cn fiveL 32 l = (cnD l : Int))) = true := by decide +kernel
end Go.Proofs.YtaeicgfebeliiaaDoor
namespace Go.Proofs.YtaeicgfebeliiaaDoor
open Go.ChangeShapes Go.WideShapes Go.ChangeAt Go.RowKit
set_option linter.unusedVariables false

theorem ins_parts : ∃ i, Tryd.prog.info? 3 = some i ∧ i.zero = some (.int .i64 0) ∧ i.size = 1 ∧ i.bytes = 8 := by
  have h : (Tryd.prog.info? 3).map (fun i => (i.zero, i.size, i.bytes)) = some (some (.int .i64 0), 1, 8) := by kernel_rfl
  obtain ⟨i, hi, hzz⟩ := Option.map_eq_some_iff.1 h
  simp only [Prod.mk.injEq] at hzz
  exact ⟨i, hi, hzz⟩
/-- The numbers l in a list of the call's own, nil or in a block from B on. -/
def Ins (w : World) (B : Nat) (v : Value) (l : List Int) : Prop := w.ownsRow B 3 1 v l.length (l.map (Value.int .i64))
theorem Ins.nil (w : World) (B : Nat) : Ins w B (.slice none 0 0) [] := World.ownsRow_nil w B _ 1
theorem Ins.nw {w w' : World} {B : Nat} {v : Value} {l : List Int} (h : Ins w B v l) (k : Nw w w') : Ins w' B v l :=
  World.ownsRow.kept h (row := none) ⟨Below.os k, Below.tape k, Below.output k, Below.size k, fun b hb _ => Below.block k b hb⟩ (by cases hv : v.ownBlock <;> simp)
theorem Ins.below {w w' : World} {B : Nat} {v v' : Value} {l : List Int} (h : Ins w B v l) (k : Ext v v' w w') (hB : B ≤ w.heap.size) : Below B w w' :=
  k.below (fun g e => (World.ownsRow.lt h g e).1) hB
def intAt (l : List Int) (i : Nat) : Int := l.getD i 0
/-- The numbers l lie in the block g. -/
def LayI (w : World) (g : Nat) (l : List Int) : Prop :=
  g < w.heap.size ∧ (∀ i, i < l.length → w.cell? ⟨g, i, none⟩ = some (.int .i64 (intAt l i))) ∧ ∀ o, w.frozen? ⟨g, o, none⟩ = false
theorem LayI.nw {w w' : World} {g : Nat} {l : List Int} (h : LayI w g l) (k : Nw w w') : LayI w' g l :=
  ⟨Nat.lt_of_lt_of_le h.1 (Below.size k), fun i hi => ((bcell k).1 _ _ h.1).trans (h.2.1 i hi), fun o => ((bcell k).2 _ _ h.1).trans (h.2.2 o)⟩
/-- Where they lie. -/
theorem Ins.lay {w : World} {B : Nat} {v : Value} {l : List Int} (h : Ins w B v l) : (v = .slice none 0 0 ∧ l = []) ∨ ∃ g c, v = .slice (some ⟨g, 0, none⟩) l.length c ∧ B ≤ g ∧ LayI w g l := by
  rcases h.2 with ⟨hn, h0⟩ | ⟨g, cap, cur, h1, h2, h3⟩
  · exact Or.inl ⟨hn, List.eq_nil_of_length_eq_zero h0⟩
  · refine Or.inr ⟨g, cap, h1, h2, ?_⟩
    subst h1
    refine ⟨(World.ownsRow.lt h g rfl).2, fun i hi => ?_, fun o => World.ownsRow.frozenAt h o⟩
    have := World.ownsRow.cellAt h i (by omega)
    rw [this]
    simp [intAt, hi]
/-- Nil, or a block of its own. -/
def Lay0 (w : World) (B : Nat) (v : Value) (l : List Int) : Prop := (v = .slice none 0 0 ∧ l = []) ∨ ∃ g c, v = .slice (some ⟨g, 0, none⟩) l.length c ∧ B ≤ g ∧ LayI w g l
/-- A number is appended. -/
theorem wp_in (w : World) {ops : Array Oper} {rest : List Oper} {o : Oper} {a : Act} {Q : Exit → Act → World → Prop} (hgd : o.guard = none) (s x : Operand)
    (ho : o.op = .call { callee := .builtin .append, args := #[s, x], argTypes := #[39, 39] })
    (B : Nat) (v : Value) (l : List Int) (t : Int) (hs : a.eval s = v) (hown : Ins w B v l) (g : Nat) (hx : a.eval x = .slice (some ⟨g, 0, none⟩) 1 1) (hc : w.cell? ⟨g, 0, none⟩ = some (.int .i64 t))
    (h63 : l.length ≤ 10000000) (hB : B ≤ w.heap.size)
    (h : ∀ v' w', Ins w' B v' (l ++ [t]) → Ext v v' w w' → wpList Tryd.prog ops Q rest (a.put o.dst v') w') : wpList Tryd.prog ops Q (o :: rest) a w := by
  obtain ⟨i0, hi, hz0, hz1, hz2⟩ := ins_parts
  refine wpList_append_own_at w hgd s x 39 ho B 3 i0 (.int .i64 0) 1 8 Tryd.underlying39 hi hz0 hz1 hz2 rfl (by decide) v l.length (l.map (Value.int .i64)) hs hown ⟨g, 0, none⟩ 1 1 [.int .i64 t] hx rfl (fun j u hj => ?_) (fun u hu => ?_) (by unfold maxLen; omega) (by omega) hB ?_
  · cases j with
    | zero => simp at hj; subst hj; simpa [Addr.add] using hc
    | succ j => simp at hj
  · simp at hu; subst hu; rfl
  · intro v' w' h1 h2 _ h4
    refine h v' w' ?_ ⟨h2, h4.imp id fun e => ⟨_, e, Nat.le_refl _⟩⟩
    unfold Ins
    rw [List.length_append, List.map_append]
    exact h1
end Go.Proofs.YtaeicgfebeliiaaDoor
