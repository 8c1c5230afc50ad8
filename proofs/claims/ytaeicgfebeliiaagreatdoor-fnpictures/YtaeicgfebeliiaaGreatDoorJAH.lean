/-
  Lists of bytes of the call's own, to which is appended, and what leaves them as they are; each theorem names its conditions.
  What is repeated is appended by the program; each theorem names its conditions.
  What the specification's reader of choices (l1Cur) answers: some number within bounds, and nothing that was there ahead of it is written; each theorem names its conditions.
  Of what was there nothing but the reader's block is written; each theorem names its conditions.
-/
import Derived.Test.YtaeicgfebeliiaaGreatDoorJAG
import Derived.Maps.AppendAt
import Derived.Lib.AppendStr
import Derived.Deep.Upon
import Derived.OwnWalk
import Derived.Handy
import Derived.Test.YtaeicgfebeliiaaGreatDoorJAF
import Derived.Laws.Bits64b
import Derived.Laws.Externs
import Derived.Laws.Pointers
import Derived.StillTactics
import Derived.BigRegion
namespace Go.Proofs.YtaeicgfebeliiaaGreatDoor
open Go.ChangeShapes Go.WideShapes Go.ChangeAt Go.RowKit
set_option linter.unusedVariables false

def vals (zs : List Int) : List Value := zs.map (Value.int .u8)
theorem vals_append (xs ys : List Int) : vals (xs ++ ys) = vals xs ++ vals ys := by simp [vals]
theorem vals_len (xs : List Int) : (vals xs).length = xs.length := by simp [vals]
/-- The bytes zs in a list of the call's own, nil or in a block from B on. -/
def Own (w : World) (B : Nat) (v : Value) (zs : List Int) : Prop := w.ownsRow B 5 1 v zs.length (vals zs)
theorem Ext.lie {v v' : Value} {w w' : World} {b off : Nat} {zs : List Int} (h : Ext v v' w w') (k : Lie w b off zs) (hne : v.ownBlock ≠ some b) : Lie w' b off zs :=
  ⟨Nat.lt_of_lt_of_le k.1 h.1.size, fun i hi => (World.cell?_of_block (w := w) (a := ⟨b, off + i, none⟩) (h.1.block b k.1 (fun e => hne e.symm))).trans (k.2 i hi)⟩

theorem Own.nil (w : World) (B : Nat) : Own w B (.slice none 0 0) [] := World.ownsRow_nil w B _ 1
theorem Own.lit (w : World) (B : Nat) (zs : List Int) (n : Nat) (cs : Array Value) (hc : cs.toList = vals zs) (hn : zs.length = n) (hB : B ≤ w.heap.size) (hl : n ≤ 1000000) : Own (w.alloc (.cells cs 5)) B (.slice (some ⟨w.heap.size, 0, none⟩) n n) zs := by
  subst hn
  unfold Own
  rw [← hc]
  have hs : cs.size = zs.length := by rw [← Array.length_toList, hc, vals_len]
  exact World.ownsRow_lit w cs zs.length hB (by unfold maxLen; omega) (by omega)
theorem Own.nw {w w' : World} {B : Nat} {v : Value} {zs : List Int} (h : Own w B v zs) (k : Nw w w') : Own w' B v zs :=
  World.ownsRow.kept h (row := none) ⟨Below.os k, Below.tape k, Below.output k, Below.size k, fun b hb _ => Below.block k b hb⟩ (by cases hv : v.ownBlock <;> simp)
theorem Own.keep {w w' : World} {B : Nat} {u v v' : Value} {zs : List Int} (h : Own w B u zs) (k : Ext v v' w w') (hne : u.ownBlock = none ∨ u.ownBlock ≠ v.ownBlock) : Own w' B u zs :=
  World.ownsRow.kept h k.1 hne
theorem Own.base {w : World} {B B' : Nat} {v : Value} {zs : List Int} (h : Own w B v zs) (hB : B' ≤ B) : Own w B' v zs := by
  refine ⟨h.1, ?_⟩
  rcases h.2 with hn | ⟨g, cap, cur, h1, h2, h3⟩
  · exact Or.inl hn
  · exact Or.inr ⟨g, cap, cur, h1, by omega, h3⟩
theorem Own.lt {w : World} {B : Nat} {v : Value} {zs : List Int} (h : Own w B v zs) : ∀ g, v.ownBlock = some g → B ≤ g ∧ g < w.heap.size := World.ownsRow.lt h
theorem Own.form {w : World} {B : Nat} {v : Value} {zs : List Int} (h : Own w B v zs) : (v = .slice none 0 0 ∧ zs = []) ∨ ∃ g c, v = .slice (some ⟨g, 0, none⟩) zs.length c ∧ B ≤ g ∧ g < w.heap.size ∧ At w g zs := by
  rcases h.2 with ⟨hn, h0⟩ | ⟨g, cap, cur, h1, h2, h3⟩
  · exact Or.inl ⟨hn, List.eq_nil_of_length_eq_zero h0⟩
  · refine Or.inr ⟨g, cap, h1, h2, ?_, ?_⟩
    · subst h1; exact (World.ownsRow.lt h g rfl).2
    · subst h1
      refine ⟨(World.ownsRow.lt h g rfl).2, fun i hi => ?_, fun o => World.ownsRow.frozenAt h o⟩
      rw [Nat.zero_add, World.ownsRow.cellAt h i (by omega)]
      simp [vals, hi]
theorem Own.lies {w : World} {B : Nat} {v : Value} {zs : List Int} (h : Own w B v zs) : Lies B w.heap.size w v zs := by
  rcases h.form with h | ⟨g, c, h1, h2, h3, h4⟩
  · exact Or.inl h
  · exact Or.inr ⟨g, c, h1, h2, h3, h4⟩
theorem At.lie {w : World} {b : Nat} {zs : List Int} (h : At w b zs) : Lie w b 0 zs := ⟨h.1, h.2.1⟩
theorem Own.some {w : World} {B : Nat} {v : Value} {zs : List Int} (h : Own w B v zs) (hz : 0 < zs.length) : ∃ g c, v = .slice (some ⟨g, 0, none⟩) zs.length c ∧ B ≤ g ∧ g < w.heap.size ∧ zs.length ≤ c ∧ c ≤ maxLen ∧ At w g zs := by
  rcases h.form with ⟨_, h⟩ | ⟨g, c, h1, h2, h3, h4⟩
  · subst h; simp at hz
  · rcases h.2 with ⟨hn, h0⟩ | ⟨g', cap, cur, e1, _, _, e2, e3, _⟩
    · omega
    · rw [h1] at e1; injection e1 with _ _ e; subst e
      exact ⟨g, c, h1, h2, h3, e2, e3, h4⟩

theorem lie_add {w : World} {b off : Nat} {zs : List Int} (h : Lie w b off zs) : ∀ j u, (vals zs)[j]? = some u → w.cell? ((⟨b, off, none⟩ : Addr).add j) = some u := by
  intro j u hj
  by_cases hl : j < zs.length
  · have h2 := h.2 j hl
    have e : u = .int .u8 (zs.getD j 0) := by
      simp [vals, hl] at hj; simp [hl]; exact hj.symm
    rw [e, ← h2]
    congr 1
    by_cases h0 : j = 0
    · subst h0; simp [Addr.add]
    · simp [Addr.add, h0]
  · simp [vals] at hj
    obtain ⟨x, hx, _⟩ := hj
    rw [List.getElem?_eq_none (by omega)] at hx
    cases hx
theorem vals_one (zs : List Int) : ∀ u ∈ vals zs, u.oneCell' = true := by
  intro u hu
  simp [vals] at hu
  obtain ⟨x, _, rfl⟩ := hu
  rfl

/-- A list is appended. -/
theorem wp_app (w : World) {ops : Array Oper} {rest : List Oper} {o : Oper} {a : Act} {Q : Exit → Act → World → Prop} (hgd : o.guard = none) (s x : Operand)
    (ho : o.op = .call { callee := .builtin .append, args := #[s, x], argTypes := #[22, 22] })
    (B : Nat) (v : Value) (zs news : List Int) (hs : a.eval s = v) (hown : Own w B v zs) (b off m c : Nat) (hx : a.eval x = .slice (some ⟨b, off, none⟩) m c) (hm : news.length = m) (hl : Lie w b off news)
    (h63 : zs.length + m ≤ 10000000) (hB : B ≤ w.heap.size)
    (h : ∀ v' w', Own w' B v' (zs ++ news) → Ext v v' w w' → wpList Tryz.prog ops Q rest (a.put o.dst v') w') : wpList Tryz.prog ops Q (o :: rest) a w := by
  obtain ⟨i0, hi, hz0, hz1, hz2⟩ := info_parts Tryz.info5
  refine wpList_append_own_at w hgd s x 22 ho B 5 i0 (.int .u8 0) 1 1 Tryz.underlying22 hi hz0 hz1 hz2 rfl (by decide) v zs.length (vals zs) hs hown ⟨b, off, none⟩ m c (vals news) hx (by rw [vals_len]; omega) (lie_add hl) (vals_one news) (by unfold maxLen; omega) (by omega) hB ?_
  intro v' w' h1 h2 h3 h4
  refine h v' w' ?_ ⟨h2, h4.imp id fun e => ⟨_, e, Nat.le_refl _⟩⟩
  unfold Own
  rw [List.length_append, vals_append, hm]
  exact h1

def strInts (s : ByteArray) : List Int := s.data.toList.map fun b => (b.toNat : Int)
theorem strInts_len (s : ByteArray) : (strInts s).length = s.size := by simp [strInts]
theorem strInts_vals (s : ByteArray) : vals (strInts s) = Lib.strCells s := by simp [vals, strInts, Lib.strCells]
theorem run_str (w : World) (ty : TypeId) (B : Nat) (g n c : Nat) (zs : List Int) (hown : Own w B (.slice (some ⟨g, 0, none⟩) n c) zs) (s : ByteArray) (h63 : zs.length + s.size ≤ 10000000) (hB : B ≤ w.heap.size) :
    ∃ v' w', (Builtin.append_ #[22, 9] ty #[.slice (some ⟨g, 0, none⟩) n c, .string s]).run Tryz.prog w = .ok v' w' ∧ Own w' B v' (zs ++ strInts s) ∧ Ext (.slice (some ⟨g, 0, none⟩) n c) v' w w' := by
  obtain ⟨i0, hi, hz0, hz1, hz2⟩ := info_parts Tryz.info5
  have hu : Tryz.prog.underlying 9 = some .string := Tryz.underlying9
  obtain ⟨v', w', hr, h1, h2, h3⟩ := Lib.run_append_own_string (P := Tryz.prog) w B 22 9 ty 5 i0 Tryz.underlying22 hu hi hz0 hz1 hz2 _ zs.length (vals zs) hown s (by unfold maxLen; omega) (by omega) hB
  refine ⟨v', w', hr, ?_, h2, ?_⟩
  · unfold Own
    rw [List.length_append, vals_append, strInts_len, strInts_vals]
    exact h1
  · rcases hown.2 with ⟨hn, _⟩ | ⟨g', cap, cur, e, hbg, hg, hnc, hcm, hcs, htake⟩
    · cases hn
    · injection e with e1 e2 e3
      injection e1 with e1
      injection e1 with e1
      subst e1 e2 e3
      by_cases hroom : zs.length + s.size ≤ c
      · have hr2 := Lib.run_append_room_string (P := Tryz.prog) w 22 9 ty 5 i0 Tryz.underlying22 hu hi hz1 g zs.length c cur hg s hroom (by omega)
        rw [hr] at hr2
        injection hr2 with e1 e2
        subst e1
        exact Or.inl rfl
      · have hr2 := Lib.run_append_grow_string (P := Tryz.prog) w 22 9 ty 5 i0 (.int .u8 0) Tryz.underlying22 hu hi hz0 ⟨g, 0, none⟩ zs.length c (vals zs) (by rw [hz1, vals_len]; omega) (World.ownsRow.cells hown rfl) s (by omega) (by omega) (by rw [hz2]; exact growslice_fits (by omega) (by omega))
        rw [hr] at hr2
        injection hr2 with e1 e2
        subst e1
        exact Or.inr ⟨_, rfl, Nat.le_refl _⟩
/-- A text is appended. -/
theorem wp_str (w : World) {ops : Array Oper} {rest : List Oper} {o : Oper} {a : Act} {Q : Exit → Act → World → Prop} (hgd : o.guard = none) (sl x : Operand)
    (ho : o.op = .call { callee := .builtin .append, args := #[sl, x], argTypes := #[22, 9] })
    (B : Nat) (g n c : Nat) (zs : List Int) (hs : a.eval sl = .slice (some ⟨g, 0, none⟩) n c) (hown : Own w B (.slice (some ⟨g, 0, none⟩) n c) zs) (s : ByteArray) (hx : a.eval x = .string s)
    (h63 : zs.length + s.size ≤ 10000000) (hB : B ≤ w.heap.size)
    (h : ∀ v' w', Own w' B v' (zs ++ strInts s) → Ext (.slice (some ⟨g, 0, none⟩) n c) v' w w' → wpList Tryz.prog ops Q rest (a.put o.dst v') w') : wpList Tryz.prog ops Q (o :: rest) a w := by
  refine wpList_plain hgd fun K hK => ?_
  obtain ⟨v', w', hr, h1, h2⟩ := run_str w o.type B g n c zs hown s h63 hB
  unfold Oper.wp execOp
  simp only [ho, resolve, invoke, builtin, Sem.run_bind, Sem.run_pure, Result.andThen_ok, List.map_toArray, List.map_cons, List.map_nil, hs, hx, hr]
  exact hK _ _ (h v' w' h1 h2)
end Go.Proofs.YtaeicgfebeliiaaGreatDoor
namespace Go.Proofs.YtaeicgfebeliiaaGreatDoor
open Go.ChangeShapes Go.WideShapes Go.ChangeAt Go.RowKit
set_option linter.unusedVariables false

/-- A byte is appended. -/
theorem wp_b (w : World) {ops : Array Oper} {rest : List Oper} {o : Oper} {a : Act} {Q : Exit → Act → World → Prop} (hgd : o.guard = none) (s x : Operand)
    (ho : o.op = .call { callee := .builtin .append, args := #[s, x], argTypes := #[22, 22] })
    (B : Nat) (v : Value) (zs : List Int) (t : Int) (hs : a.eval s = v) (hown : Own w B v zs) (g : Nat) (hx : a.eval x = .slice (some ⟨g, 0, none⟩) 1 1) (hc : w.cell? ⟨g, 0, none⟩ = some (.int .u8 t))
    (h63 : zs.length ≤ 1000000) (hB : B ≤ w.heap.size)
    (h : ∀ v' w', Own w' B v' (zs ++ [t]) → Ext v v' w w' → wpList Tryz.prog ops Q rest (a.put o.dst v') w') : wpList Tryz.prog ops Q (o :: rest) a w :=
  wp_app w hgd s x ho B v zs [t] hs hown g 0 1 1 hx rfl ⟨World.block_lt_of_cell? w ⟨g, 0, none⟩ hc, fun i hi => by
    have e : i = 0 := by simpa using hi
    subst e
    simpa using hc⟩ (by omega) hB h
theorem Own.shape {w : World} {B : Nat} {v : Value} {zs : List Int} (h : Own w B v zs) : ∃ a c, v = .slice a zs.length c := by
  rcases h.form with ⟨rfl, rfl⟩ | ⟨g, c, rfl, _⟩
  · exact ⟨none, 0, rfl⟩
  · exact ⟨_, c, rfl⟩
set_option maxHeartbeats 4000000 in
theorem repeat_any (w : World) (B : Nat) (v : Value) (zs : List Int) (n d : Nat) (hB : B ≤ w.heap.size) (ho : Own w B v zs) (h1 : 1 ≤ d) (hd : d ≤ zs.length) (hn : zs.length + n ≤ 6000) :
    Calls Tryz.prog 108 #[v, .int .i64 n, .int .i64 d] w fun e w' => ∃ v', e = .returned (.tuple #[v', .int .i64 0]) ∧ Own w' B v' (rep zs d n) ∧ Ext v v' w w' := by
  obtain ⟨g0, c0, rfl, _⟩ := ho.some (by omega)
  have HO0 : Hid _ := ho
  have HL : Hid (∀ k, (rep zs d k).length = zs.length + k) := rep_len zs d
  have dd1 : decide ((zs.length : Int) < (d : Int)) = false := by simp; omega
  have dd2 : decide (zs.length < d) = false := by simp; omega
  clear ho
  go_enter Tryz.func108, Tryz.ntmps108
  go_wp2
  go_loopw [0, 13] (fun v i wr => ∃ k : Nat, k ≤ n ∧ i = .int .i64 k ∧ Own wr B v (rep zs d k) ∧ Ext (.slice (some ⟨g0, 0, none⟩) zs.length c0) v w wr) (fun _ i _ => n - (intOf i).toNat)
  case atStart => exact ⟨0, Nat.zero_le _, rfl, HO0.out, Ext.refl _ _⟩
  case round =>
    obtain ⟨k, hk, rfl, ho, he⟩ := hrel
    have hlk := HL.out k
    obtain ⟨g, c, rfl, hg1, hg2, hg3, hg4, hA⟩ := ho.some (by omega)
    have HO : Hid _ := ho
    have HE : Hid _ := he
    have hsz : B ≤ wr.heap.size := by have := he.size; omega
    clear ho he
    by_cases hlt : k < n
    · obtain ⟨I, hI⟩ : ∃ I, zs.length + k - d = I := ⟨_, rfl⟩
      have hx := hA.2.1 I (by omega)
      rw [Nat.zero_add] at hx
      have HS : Hid (rep zs d (k + 1) = rep zs d k ++ [(rep zs d k).getD I 0]) := by show _ = _; rw [← hI]; rfl
      have hII : ((rep zs d k).length : Int) - (d : Int) = (I : Int) := by omega
      have him : I < (rep zs d k).length := by omega
      have hwI : wrap64 (I : Int) = (I : Int) := IntWalk.wrap64_in _ ⟨by omega, by omega⟩
      have hm6 : (((rep zs d k).length : Int) == 6000) = false := by rw [beq_eq_false_iff_ne]; omega
      obtain ⟨x, hxx⟩ : ∃ x, (rep zs d k).getD I 0 = x := ⟨_, rfl⟩
      rw [hxx] at hx HS
      have HB0 : ∀ o, Hid (Nw wr (wr.alloc o)) := fun o => (Below.refl _ _).alloc (Nat.le_refl _) o
      have hol : (rep zs d k).length ≤ 1000000 := by omega
      clear hA hI hlk hxx
      generalize rep zs d k = L at *
      go_wp2_with (at_builtin; (refine wp_b _ rfl _ _ rfl B _ L x rfl (Own.nw HO.out (HB0 _).out) _ rfl ?c1 hol ?c3 ?_))
      case c1 => simp
      case c3 => exact Nat.le_trans hsz (Below.size (HB0 _).out)
      intro v' w' h1 h2
      have HO2 : Hid (Own w' B v' (rep zs d (k + 1))) := by show Own _ _ _ _; rw [HS.out]; exact h1
      have HE2 : Hid (Ext (.slice (some ⟨g0, 0, none⟩) zs.length c0) v' w w') := Ext.trans HE.out (Nw.ext (HB0 _).out h2)
      clear h1 h2
      go_wp2
      go_roundw
      case rel => exact ⟨k + 1, by omega, by go_num, HO2.out, HE2.out⟩
      case measure => simp [intOf]; omega
    · have e : k = n := by omega
      subst e
      go_wp2
      go_ret2
      exact ⟨_, rfl, HO.out, HE.out⟩
end Go.Proofs.YtaeicgfebeliiaaGreatDoor
namespace Go.Proofs.YtaeicgfebeliiaaGreatDoor
open Go.ChangeShapes Go.WideShapes Go.ChangeAt Go.RowKit
set_option linter.unusedVariables false

theorem Sel.drew {B : Nat} {a b : World} (h : Sel B a b) : Sel B a b.drew := ⟨h.os, h.tape, h.output, h.size, h.block⟩
theorem Sel.cell {B : Nat} {w w' : World} (h : Sel B w w') {p : Addr} (hp : p.block ≠ B) : w'.cell? p = w.cell? p := World.cell?_of_block (w := w) (h.block p.block hp)

/-- The bytes that a reader reads lie below B. -/
def Code (w : World) (B : Nat) (ca : Option Addr) (len : Nat) : Prop :=
  len = 0 ∨ ∃ b off, ca = some ⟨b, off, none⟩ ∧ b < B ∧ ∀ i, i < len → ∃ v : Int, 0 ≤ v ∧ v ≤ 255 ∧ w.cell? ⟨b, off + i, none⟩ = some (.int .u8 v)
/-- A reader in the block B. -/
def Cur (w : World) (B : Nat) (ca : Option Addr) (len cap : Nat) (n : Nat) : Prop :=
  ∃ (k : Nat) (sd : Int), k ≤ n ∧ 0 ≤ sd ∧ sd < 18446744073709551616 ∧ w.cell? ⟨B, 0, none⟩ = some (.slice ca len cap) ∧ w.cell? ⟨B, 1, none⟩ = some (.int .i64 (k : Int)) ∧ w.cell? ⟨B, 2, none⟩ = some (.int .u64 sd) ∧ (∀ o, w.frozen? ⟨B, o, none⟩ = false) ∧ B < w.heap.size

theorem and_byte (a : Int) (h0 : 0 ≤ a) (h : a < 18446744073709551616) : bits .and .u64 a 255 = a % 256 := by
  obtain ⟨x, rfl⟩ := Int.eq_ofNat_of_zero_le h0
  have e := bits_and_u64_nat x 255 (by omega) (by omega)
  have e2 : x &&& 255 = x % 256 := Nat.and_two_pow_sub_one_eq_mod x 8
  rw [e2] at e
  exact e

theorem cur_set (w : World) (B : Nat) (ca : Option Addr) (len cap n k : Nat) (sd S : Int) (hk : k ≤ n) (S0 : 0 ≤ S) (S1 : S < 18446744073709551616) (c0 : w.cell? ⟨B, 0, none⟩ = some (.slice ca len cap)) (c1 : w.cell? ⟨B, 1, none⟩ = some (.int .i64 (k : Int))) (c2 : w.cell? ⟨B, 2, none⟩ = some (.int .u64 sd)) (hf : ∀ o, w.frozen? ⟨B, o, none⟩ = false) (hB : B < w.heap.size) :
    Cur ((w.setCell ⟨B, 1, none⟩ (.int .i64 ((k : Int) + 1))).setCell ⟨B, 2, none⟩ (.int .u64 S)) B ca len cap (n + 1) ∧ Sel B w ((w.setCell ⟨B, 1, none⟩ (.int .i64 ((k : Int) + 1))).setCell ⟨B, 2, none⟩ (.int .u64 S)) := by
  refine ⟨⟨k + 1, S, by omega, S0, S1, ?_, ?_, ?_, ?_, by simpa [World.setCell] using hB⟩, ((Sel.refl B w).setCell _ _).setCell _ _⟩
  · rw [World.cell?_setCell_other _ _ _ _ (by simp), World.cell?_setCell_other _ _ _ _ (by simp)]; exact c0
  · rw [World.cell?_setCell_other _ _ _ _ (by simp)]
    rw [World.cell?_setCell_same (u := .int .i64 (k : Int)) (h := c1)]; rfl
  · apply World.cell?_setCell_same (u := .int .u64 sd)
    rw [World.cell?_setCell_other _ _ _ _ (by simp)]; exact c2
  · intro o; rw [World.frozen?_setCell, World.frozen?_setCell]; exact hf o

theorem wrap_bd (x : Int) : 0 ≤ IntKind.u64.wrap x ∧ IntKind.u64.wrap x < 18446744073709551616 := by rw [IntKind.wrap_u64]; omega

theorem seed_bd (X : Int) : 0 ≤ wrap64 (bits .and .u64 (IntKind.u64.wrap X / 1099511627776) 255) ∧ wrap64 (bits .and .u64 (IntKind.u64.wrap X / 1099511627776) 255) ≤ 255 := by
  have h := wrap_bd X
  rw [and_byte _ (by omega) (by omega)]
  generalize IntKind.u64.wrap X = Y at *
  rw [IntWalk.wrap64_in _ ⟨by omega, by omega⟩]
  omega

set_option maxHeartbeats 1000000 in
theorem next_any (w : World) (B : Nat) (ca : Option Addr) (len cap n : Nat) (hl : len ≤ 9223372036854775807) (hn : n ≤ 1099511627776) (hc : Cur w B ca len cap n) (hd : Code w B ca len) :
    Calls Tryz.prog 53 #[.pointer (some ⟨B, 0, none⟩)] w fun e w' => ∃ v : Int, e = .returned (.int .i64 v) ∧ 0 ≤ v ∧ v ≤ 255 ∧ Cur w' B ca len cap (n + 1) ∧ Sel B w w' := by
  obtain ⟨k, sd, hk, s0, s1, c0, c1, c2, hf, hB⟩ := hc
  by_cases hlt : k < len
  · rcases hd with h | ⟨b, off, rfl, hb, hcs⟩
    · exact absurd hlt (by omega)
    · obtain ⟨v, v0, v1, hv⟩ := hcs k hlt
      clear hcs
      have HC := fun S S0 S1 => Hid.out (cur_set w B (some ⟨b, off, none⟩) len cap n k sd S hk S0 S1 c0 c1 c2 hf hB)
      have HC' : Hid _ := HC
      clear HC
      go_enter Tryz.func53, Tryz.ntmps53
      go_wp2
      go_region
      go_wp2
      go_region
      go_wp2
      go_region
      go_wp2
      go_ret
      exact ⟨v, rfl, v0, v1, (HC'.out _ (wrap_bd _).1 (wrap_bd _).2).1, (HC'.out _ (wrap_bd _).1 (wrap_bd _).2).2.drew.drew.drew⟩
  · have HC := fun S S0 S1 => Hid.out (cur_set w B ca len cap n k sd S hk S0 S1 c0 c1 c2 hf hB)
    have HC' : Hid _ := HC
    clear HC
    go_enter Tryz.func53, Tryz.ntmps53
    go_wp2
    go_region
    go_wp2
    go_region
    go_wp2
    go_ret
    exact ⟨_, rfl, (seed_bd _).1, (seed_bd _).2, (HC'.out _ (wrap_bd _).1 (wrap_bd _).2).1, (HC'.out _ (wrap_bd _).1 (wrap_bd _).2).2.drew.drew⟩

theorem Code.below {w w1 : World} {B : Nat} {ca : Option Addr} {len : Nat} (h : Code w B ca len) (hb : Below B w w1) : Code w1 B ca len := by
  rcases h with h | ⟨b, off, h1, h2, h3⟩
  · exact Or.inl h
  · refine Or.inr ⟨b, off, h1, h2, fun i hi => ?_⟩
    obtain ⟨v, v0, v1, hv⟩ := h3 i hi
    exact ⟨v, v0, v1, by rw [hb.cell (p := ⟨b, off + i, none⟩) h2]; exact hv⟩
theorem Cur.mono {w : World} {B : Nat} {ca : Option Addr} {len cap n m : Nat} (h : Cur w B ca len cap n) (hm : n ≤ m) : Cur w B ca len cap m := by
  obtain ⟨k, sd, h1, h2⟩ := h
  exact ⟨k, sd, by omega, h2⟩

set_option maxHeartbeats 1000000 in
theorem pick_any (w : World) (B : Nat) (ca : Option Addr) (len cap n : Nat) (m : Int) (hl : len ≤ 9223372036854775807) (hn : n ≤ 1000000000) (m1 : 1 ≤ m) (m2 : m ≤ 1000000) (hc : Cur w B ca len cap n) (hd : Code w B ca len) :
    Calls Tryz.prog 27 #[.pointer (some ⟨B, 0, none⟩), .int .i64 m] w fun e w' => ∃ v : Int, e = .returned (.int .i64 v) ∧ 0 ≤ v ∧ v < m ∧ Cur w' B ca len cap (n + 2) ∧ Sel B w w' := by
  have HC : Hid _ := hc
  have HD : Hid _ := hd
  clear hc hd
  by_cases h1 : m = 1
  · subst h1
    go_enter Tryz.func27, Tryz.ntmps27
    go_wp2
    go_ret
    exact ⟨0, rfl, by omega, by omega, Cur.mono HC.out (by omega), Sel.refl _ _⟩
  have d1 : decide (m ≤ 1) = false := decide_eq_false (by omega)
  by_cases h2 : m ≤ 200
  · go_enter Tryz.func27, Tryz.ntmps27
    go_wp2_with fail
    refine (next_any w B ca len cap n hl (by omega) HC.out HD.out).mono ?_
    rintro e w1 ⟨v, rfl, v0, v1, hc1, hb1⟩
    have HC1 : Hid _ := hc1
    have HB1 : Hid _ := hb1
    clear hc1 hb1
    have x1 := Int.emod_nonneg v (b := m) (by omega)
    have x2 := Int.emod_lt_of_pos v (b := m) (by omega)
    go_wp2
    go_ret
    exact ⟨v % m, rfl, x1, x2, Cur.mono HC1.out (by omega), HB1.out⟩
  · go_enter Tryz.func27, Tryz.ntmps27
    go_wp2_with fail
    refine (next_any w B ca len cap n hl (by omega) HC.out HD.out).mono ?_
    rintro e w1 ⟨v, rfl, v0, v1, hc1, hb1⟩
    have HC1 : Hid _ := hc1
    have HB1 : Hid _ := hb1
    clear hc1 hb1
    go_wp2_with fail
    refine (next_any w1 B ca len cap (n + 1) hl (by omega) HC1.out (Code.below HD.out (Sel.below HB1.out))).mono ?_
    rintro e w2 ⟨u, rfl, u0, u1, hc2, hb2⟩
    have HC2 : Hid _ := hc2
    have HB2 : Hid _ := hb2
    clear hc2 hb2
    have x1 := Int.emod_nonneg (v * 256 + u) (b := m) (by omega)
    have x2 := Int.emod_lt_of_pos (v * 256 + u) (b := m) (by omega)
    go_wp2
    go_ret
    exact ⟨(v * 256 + u) % m, rfl, x1, x2, HC2.out, Sel.trans HB1.out HB2.out⟩

set_option maxHeartbeats 1000000 in
theorem one_any (w : World) (B : Nat) (ca : Option Addr) (len cap n : Nat) (m : Int) (hl : len ≤ 9223372036854775807) (hn : n ≤ 1000000000) (m1 : 1 ≤ m) (m2 : m ≤ 1000000) (hc : Cur w B ca len cap n) (hd : Code w B ca len) :
    Calls Tryz.prog 28 #[.pointer (some ⟨B, 0, none⟩), .int .i64 m] w fun e w' => ∃ v : Bool, e = .returned (.bool v) ∧ Cur w' B ca len cap (n + 2) ∧ Sel B w w' := by
  have HC : Hid _ := hc
  have HD : Hid _ := hd
  clear hc hd
  go_enter Tryz.func28, Tryz.ntmps28
  go_wp2_with fail
  refine (pick_any w B ca len cap n m hl hn m1 m2 HC.out HD.out).mono ?_
  rintro e w1 ⟨v, rfl, v0, v1, hc1, hb1⟩
  have HC1 : Hid _ := hc1
  have HB1 : Hid _ := hb1
  clear hc1 hb1
  go_wp2
  go_ret
  exact ⟨_, rfl, HC1.out, HB1.out⟩
theorem Cur.alloc {w : World} {B : Nat} {ca : Option Addr} {len cap n : Nat} (h : Cur w B ca len cap n) (c : Array Value) (t : TypeId) : Cur (w.alloc (.cells c t)) B ca len cap n := by
  obtain ⟨k, sd, h1, h2, h3, h4, h5, h6, h7, h8⟩ := h
  refine ⟨k, sd, h1, h2, h3, ?_, ?_, ?_, ?_, by simp; omega⟩
  · rw [World.cell?_alloc_past _ _ _ h8]; exact h4
  · rw [World.cell?_alloc_past _ _ _ h8]; exact h5
  · rw [World.cell?_alloc_past _ _ _ h8]; exact h6
  · intro o; rw [frozen?_alloc_cells]; exact h7 o
theorem Code.alloc {w : World} {B : Nat} {ca : Option Addr} {len : Nat} (h : Code w B ca len) (hB : B ≤ w.heap.size) (o : Obj) : Code (w.alloc o) B ca len :=
  Code.below h ((Below.refl B w).alloc hB o)
theorem Cur.lt {w : World} {B : Nat} {ca : Option Addr} {len cap n : Nat} (h : Cur w B ca len cap n) : B < w.heap.size := by
  obtain ⟨_, _, _, _, _, _, _, _, _, h⟩ := h; exact h
end Go.Proofs.YtaeicgfebeliiaaGreatDoor
namespace Go.Proofs.YtaeicgfebeliiaaGreatDoor
open Go.ChangeShapes Go.WideShapes Go.ChangeAt Go.RowKit
set_option linter.unusedVariables false

/-- Of what was there nothing but the block B is written. -/
def Gr (B : Nat) (w w' : World) : Prop := w.grownBy w' (some B)
theorem Gr.refl (B : Nat) (w : World) : Gr B w w := ⟨rfl, rfl, rfl, Nat.le_refl _, fun _ _ _ => rfl⟩
theorem Gr.size {B : Nat} {a b : World} (h : Gr B a b) : a.heap.size ≤ b.heap.size := World.grownBy.size h
theorem Gr.trans {B : Nat} {a b c : World} (h : Gr B a b) (k : Gr B b c) : Gr B a c :=
  ⟨(World.grownBy.os k).trans (World.grownBy.os h), (World.grownBy.tape k).trans (World.grownBy.tape h), (World.grownBy.output k).trans (World.grownBy.output h), Nat.le_trans h.size k.size,
   fun i hi hne => (World.grownBy.block k i (Nat.lt_of_lt_of_le hi h.size) hne).trans (World.grownBy.block h i hi hne)⟩
theorem Gr.of_sel {B : Nat} {a b : World} (h : Sel B a b) : Gr B a b :=
  ⟨h.os, h.tape, h.output, by rw [h.size]; exact Nat.le_refl _, fun i _ hne => h.block i (fun e => hne (by rw [e]))⟩
theorem Gr.of_nw {B : Nat} {a b : World} (h : Nw a b) : Gr B a b := ⟨Below.os h, Below.tape h, Below.output h, Below.size h, fun i hi _ => Below.block h i hi⟩
theorem Gr.alloc {B : Nat} {a b : World} (h : Gr B a b) (o : Obj) : Gr B a (b.alloc o) := h.trans (Gr.of_nw ((Below.refl _ _).alloc (Nat.le_refl _) _))
theorem Gr.set {B : Nat} {a b : World} (h : Gr B a b) {g : Nat} (hg : a.heap.size ≤ g) (o : Nat) (v : Value) : Gr B a (b.setCell ⟨g, o, none⟩ v) := by
  have h' : a.grownBy b (some B) := h
  exact ⟨h'.os, h'.tape, h'.output, by simpa [World.setCell] using h.size, fun i hi hne => by
    rw [Below.heap_setCell _ _ _ _ (by show i ≠ g; omega)]
    exact h'.block i hi hne⟩
theorem Gr.cell {B : Nat} {a b : World} (h : Gr B a b) {g : Nat} (hg : g < a.heap.size) (hne : g ≠ B) (o : Nat) : b.cell? ⟨g, o, none⟩ = a.cell? ⟨g, o, none⟩ :=
  World.cell?_of_block (w := a) (a := ⟨g, o, none⟩) (World.grownBy.block h g hg (fun e => hne (Option.some.inj e)))
theorem Gr.frozen {B : Nat} {a b : World} (h : Gr B a b) {g : Nat} (hg : g < a.heap.size) (hne : g ≠ B) (o : Nat) : b.frozen? ⟨g, o, none⟩ = a.frozen? ⟨g, o, none⟩ :=
  World.frozen?_of_block (w := a) (a := ⟨g, o, none⟩) (World.grownBy.block h g hg (fun e => hne (Option.some.inj e)))
theorem Gr.below {B : Nat} {a b : World} (h : Gr B a b) (hB : B ≤ a.heap.size) : Below B a b :=
  ⟨World.grownBy.os h, World.grownBy.tape h, World.grownBy.output h, h.size, fun i hi => World.grownBy.block h i (by omega) (fun e => by have := Option.some.inj e; omega)⟩
theorem Cur.set {w : World} {B : Nat} {ca : Option Addr} {len cap n : Nat} (h : Cur w B ca len cap n) {g : Nat} (hg : g ≠ B) (o : Nat) (v : Value) : Cur (w.setCell ⟨g, o, none⟩ v) B ca len cap n := by
  obtain ⟨k, sd, h1, h2, h3, c0, c1, c2, hf, hB⟩ := h
  have e : ∀ o', (w.setCell ⟨g, o, none⟩ v).cell? ⟨B, o', none⟩ = w.cell? ⟨B, o', none⟩ := fun o' => World.cell?_setCell_other _ _ _ _ (fun e => by injection e; omega)
  exact ⟨k, sd, h1, h2, h3, (e _).trans c0, (e _).trans c1, (e _).trans c2, fun o' => by rw [World.frozen?_setCell]; exact hf o', by simpa [World.setCell] using hB⟩
end Go.Proofs.YtaeicgfebeliiaaGreatDoor
