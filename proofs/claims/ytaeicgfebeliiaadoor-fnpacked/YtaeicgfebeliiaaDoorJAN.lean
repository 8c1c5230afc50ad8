/-
  What the specification's reader of choices answers of a list of texts: one of them; each theorem names its conditions.
  What the specification's draws of data answer: some bytes, and of what was there nothing but the reader is written; each theorem names its conditions.
  What the specification's draw of data answers: some bytes, and of what was there nothing but the reader is written; each theorem names its conditions.
  What PackBest of both answers where there may be no list at all; each theorem names its conditions.
-/
import Derived.Test.YtaeicgfebeliiaaDoorJAG
import Derived.Test.YtaeicgfebeliiaaDoorJAJ
import Derived.Test.YtaeicgfebeliiaaDoorJAH
import Derived.Test.YtaeicgfebeliiaaDoorJAM
namespace Go.Proofs.YtaeicgfebeliiaaDoor
open Go.ChangeShapes Go.WideShapes Go.ChangeAt Go.RowKit
set_option linter.unusedVariables false

/-- A list of texts that is only read, in the block L. -/
def Txts (w : World) (L : Nat) (l : List ByteArray) : Prop := ∀ i (h : i < l.length), w.cell? ⟨L, i, none⟩ = some (.string l[i])
theorem txts_alloc (l : List ByteArray) (w : World) (t : TypeId) : Txts (w.alloc (.cells (l.map Value.string).toArray t)) w.heap.size l := by
  intro i h
  rw [World.cell?_alloc_new]
  simp [h]
set_option maxHeartbeats 1000000 in
theorem of_any (w : World) (B L ln : Nat) (l : List ByteArray) (hln : l.length = ln) (ca : Option Addr) (len cap n : Nat) (hl : len ≤ 9223372036854775807) (hn : n ≤ 1000000000) (l1 : 2 ≤ ln) (l2 : ln ≤ 1000) (hLB : L ≠ B) (hN : Txts w L l) (hc : Cur w B ca len cap n) (hd : Code w B ca len) :
    Calls Tryd.prog 68 #[.pointer (some ⟨B, 0, none⟩), .slice (some ⟨L, 0, none⟩) ln ln] w fun e w' => ∃ v : ByteArray, e = .returned (.string v) ∧ v ∈ l ∧ Cur w' B ca len cap (n + 2) ∧ Sel B w w' := by
  have HC : Hid _ := hc
  have HD : Hid _ := hd
  have HN : Hid _ := hN
  have HL : Hid _ := hln
  clear hc hd hN hln
  go_enter Tryd.func68, Tryd.ntmps68
  go_wp2_with fail
  refine (pick_any w B ca len cap n ln hl hn (by omega) (by omega) HC.out HD.out).mono ?_
  rintro e w1 ⟨i, rfl, i0, i1, hc1, hb1⟩
  obtain ⟨k, rfl⟩ := Int.eq_ofNat_of_zero_le i0
  have hkl : k < l.length := by rw [HL.out]; omega
  have HM : Hid (l[k] ∈ l) := List.getElem_mem _
  have hv := HN.out k hkl
  generalize l[k] = v at *
  have hv1 : w1.cell? ⟨L, k, none⟩ = some (.string v) := by rw [hb1.cell (p := ⟨L, k, none⟩) hLB]; exact hv
  have HC1 : Hid _ := hc1
  have HB1 : Hid _ := hb1
  clear hc1 hb1 hv hkl
  go_wp2
  go_ret
  exact ⟨v, rfl, HM.out, HC1.out, HB1.out⟩
/-- One of a list of texts that has just been laid. -/
theorem of_lit (w : World) (B m : Nat) (l : List ByteArray) (hm : ∀ x, x ∈ l → x.size ≤ m) (t : TypeId) (ca : Option Addr) (len cap n : Nat) (hl : len ≤ 9223372036854775807) (hn : n ≤ 1000000000) (l1 : 2 ≤ l.length) (l2 : l.length ≤ 1000) (hc : Cur w B ca len cap n) (hd : Code w B ca len) :
    Calls Tryd.prog 68 #[.pointer (some ⟨B, 0, none⟩), .slice (some ⟨w.heap.size, 0, none⟩) l.length l.length] (w.alloc (.cells (l.map Value.string).toArray t)) fun e w' => ∃ v : ByteArray, e = .returned (.string v) ∧ v.size ≤ m ∧ Cur w' B ca len cap (n + 2) ∧ Gr B w w' := by
  have hB := hc.lt
  refine (of_any _ B w.heap.size l.length l rfl ca len cap n hl hn l1 l2 (by omega) (txts_alloc l w t) (hc.alloc _ _) (Code.alloc hd (by omega) _)).mono ?_
  rintro e w' ⟨v, rfl, hv, hc1, hs⟩
  exact ⟨v, rfl, hm v hv, hc1, Gr.trans ((Gr.refl B w).alloc _) (Gr.of_sel hs)⟩
theorem of_litL (w : World) (B m L : Nat) (hL : w.heap.size = L) (l : List ByteArray) (hm : ∀ x, x ∈ l → x.size ≤ m) (t : TypeId) (ca : Option Addr) (len cap n : Nat) (hl : len ≤ 9223372036854775807) (hn : n ≤ 1000000000) (l1 : 2 ≤ l.length) (l2 : l.length ≤ 1000) (hc : Cur w B ca len cap n) (hd : Code w B ca len) :
    Calls Tryd.prog 68 #[.pointer (some ⟨B, 0, none⟩), .slice (some ⟨L, 0, none⟩) l.length l.length] (w.alloc (.cells (l.map Value.string).toArray t)) fun e w' => ∃ v : ByteArray, e = .returned (.string v) ∧ v.size ≤ m ∧ Cur w' B ca len cap (n + 2) ∧ Gr B w w' := by
  subst hL
  exact of_lit w B m l hm t ca len cap n hl hn l1 l2 hc hd
end Go.Proofs.YtaeicgfebeliiaaDoor
namespace Go.Proofs.YtaeicgfebeliiaaDoor
open Go.ChangeShapes Go.WideShapes Go.ChangeAt Go.RowKit
set_option linter.unusedVariables false

theorem Own.gra {w w' : World} {B S : Nat} {v : Value} {zs : List Int} (h : Own w B v zs) (k : Gr S w w') (hS : S < B) : Own w' B v zs :=
  World.ownsRow.kept h k (Or.inr fun e => by have := (Own.lt h S e).1; omega)
theorem Cur.ext {w w' : World} {B : Nat} {ca : Option Addr} {len cap n : Nat} {v v' : Value} (h : Cur w B ca len cap n) (k : Ext v v' w w') (hne : v.ownBlock ≠ some B) : Cur w' B ca len cap n := by
  have hB := h.lt
  obtain ⟨i, sd, h1, h2, h3, c0, c1, c2, hf, _⟩ := h
  exact ⟨i, sd, h1, h2, h3, (Ext.cell k hB hne _).trans c0, (Ext.cell k hB hne _).trans c1, (Ext.cell k hB hne _).trans c2, fun o => (World.frozen?_of_block (w := w) (a := ⟨B, o, none⟩) (k.1.block B hB (fun e => hne e.symm))).trans (hf o), Nat.lt_of_lt_of_le hB k.1.size⟩
theorem Gr.exta {S : Nat} {W w w' : World} {v v' : Value} (h : Gr S W w) (k : Ext v v' w w') (hv : ∀ g, v.ownBlock = some g → W.heap.size ≤ g) : Gr S W w' :=
  ⟨k.1.os.trans (World.grownBy.os h), k.1.tape.trans (World.grownBy.tape h), k.1.output.trans (World.grownBy.output h), Nat.le_trans h.size k.1.size, fun i hi hne => (k.1.block i (Nat.lt_of_lt_of_le hi h.size) (fun e => by have := hv i e.symm; omega)).trans (World.grownBy.block h i hi hne)⟩
/-- A text is appended to a list that may be none. -/
theorem run_strA (w : World) (ty : TypeId) (B : Nat) (v : Value) (zs : List Int) (hown : Own w B v zs) (s : ByteArray) (h63 : zs.length + s.size ≤ 10000000) (hB : B ≤ w.heap.size) :
    ∃ v' w', (Builtin.append_ #[22, 9] ty #[v, .string s]).run Tryd.prog w = .ok v' w' ∧ Own w' B v' (zs ++ strInts s) ∧ Ext v v' w w' := by
  rcases hown.form with ⟨rfl, rfl⟩ | ⟨g, c, rfl, _⟩
  · obtain ⟨i0, hi, hz0, hz1, hz2⟩ := info_parts Tryd.info5
    have hu : Tryd.prog.underlying 9 = some .string := Tryd.underlying9
    obtain ⟨v', w', hr, h1, h2, h3⟩ := Lib.run_append_own_string (P := Tryd.prog) w w.heap.size 22 9 ty 5 i0 Tryd.underlying22 hu hi hz0 hz1 hz2 (.slice none 0 0) 0 [] (World.ownsRow_nil _ _ _ _) s (by unfold maxLen; simp at h63; omega) (by simp at h63; omega) (Nat.le_refl _)
    have ho : Own w' w.heap.size v' (strInts s) := by
      unfold Own
      rw [strInts_len, strInts_vals]
      simpa using h1
    refine ⟨v', w', hr, by rw [List.nil_append]; exact Own.base ho hB, h2, ?_⟩
    rcases ho.form with ⟨e, _⟩ | ⟨g, c, e, hg, _⟩
    · rw [e]; exact Or.inl rfl
    · rw [e]; exact Or.inr ⟨g, rfl, hg⟩
  · exact run_str w ty B g _ c zs hown s h63 hB
theorem wp_strA (w : World) {ops : Array Oper} {rest : List Oper} {o : Oper} {a : Act} {Q : Exit → Act → World → Prop} (hgd : o.guard = none) (sl x : Operand)
    (ho : o.op = .call { callee := .builtin .append, args := #[sl, x], argTypes := #[22, 9] })
    (B : Nat) (v : Value) (zs : List Int) (hs : a.eval sl = v) (hown : Own w B v zs) (s : ByteArray) (hx : a.eval x = .string s)
    (h63 : zs.length + s.size ≤ 10000000) (hB : B ≤ w.heap.size)
    (h : ∀ v' w', Own w' B v' (zs ++ strInts s) → Ext v v' w w' → wpList Tryd.prog ops Q rest (a.put o.dst v') w') : wpList Tryd.prog ops Q (o :: rest) a w := by
  refine wpList_plain hgd fun K hK => ?_
  obtain ⟨v', w', hr, h1, h2⟩ := run_strA w o.type B v zs hown s h63 hB
  unfold Oper.wp execOp
  simp only [ho, resolve, invoke, builtin, Sem.run_bind, Sem.run_pure, Result.andThen_ok, List.map_toArray, List.map_cons, List.map_nil, hs, hx, hr]
  exact hK _ _ (h v' w' h1 h2)
/-- A list that may be none is appended. -/
theorem wp_appA (w : World) {ops : Array Oper} {rest : List Oper} {o : Oper} {a : Act} {Q : Exit → Act → World → Prop} (hgd : o.guard = none) (s x : Operand)
    (ho : o.op = .call { callee := .builtin .append, args := #[s, x], argTypes := #[22, 22] })
    (B B2 : Nat) (v u : Value) (zs ys : List Int) (hs : a.eval s = v) (hown : Own w B v zs) (hx : a.eval x = u) (hu : Own w B2 u ys)
    (h63 : zs.length + ys.length ≤ 10000000) (hB : B ≤ w.heap.size)
    (h : ∀ v' w', Own w' B v' (zs ++ ys) → Ext v v' w w' → wpList Tryd.prog ops Q rest (a.put o.dst v') w') : wpList Tryd.prog ops Q (o :: rest) a w := by
  rcases hu.form with ⟨rfl, rfl⟩ | ⟨g, c, rfl, _, _, hA⟩
  · obtain ⟨i0, hi, hz0, hz1, hz2⟩ := info_parts Tryd.info5
    obtain ⟨va, vn, vc, rfl, hvc⟩ : ∃ va vn vc, v = .slice va vn vc ∧ vn ≤ vc := by
      rcases hown.2 with ⟨hn, h0⟩ | ⟨g', cap, cur, e1, _, _, e2, e3, _⟩
      · exact ⟨_, _, _, hn, Nat.le_refl _⟩
      · exact ⟨_, _, _, e1, e2⟩
    have hr := run_append_nothing (P := Tryd.prog) w 22 22 o.type 5 i0 Tryd.underlying22 hi va vn vc hvc (.slice none 0 0) (Src.ofNil w Tryd.underlying22 0)
    refine wpList_plain hgd fun K hK => ?_
    unfold Oper.wp execOp
    simp only [ho, resolve, invoke, builtin, Sem.run_bind, Sem.run_pure, Result.andThen_ok, List.map_toArray, List.map_cons, List.map_nil, hs, hx, hr]
    exact hK _ _ (h _ _ (by rw [List.append_nil]; exact hown) (Ext.refl _ _))
  · exact wp_app w hgd s x ho B v zs ys hs hown g 0 _ c hx rfl hA.lie h63 hB h
/-- All of them are bytes. -/
def Byts (zs : List Int) : Prop := ∀ z ∈ zs, 0 ≤ z ∧ z ≤ 255
theorem Byts.app {a b : List Int} (h : Byts a) (k : Byts b) : Byts (a ++ b) := fun z hz => (List.mem_append.1 hz).elim (h z) (k z)
theorem Byts.one {x : Int} (h0 : 0 ≤ x) (h1 : x ≤ 255) : Byts [x] := fun z hz => by rw [List.mem_singleton.1 hz]; exact ⟨h0, h1⟩
theorem Byts.str (s : ByteArray) : Byts (strInts s) := fun z hz => by
  unfold strInts at hz
  obtain ⟨b, _, rfl⟩ := List.mem_map.1 hz
  have := b.toNat_lt
  omega
set_option maxHeartbeats 4000000 in
theorem bytes_any (w : World) (B : Nat) (ca : Option Addr) (len cap n m : Nat) (hl : len ≤ 9223372036854775807) (hn : n ≤ 1000000) (hm : m ≤ 100) (hc : Cur w B ca len cap n) (hd : Code w B ca len) :
    Calls Tryd.prog 69 #[.pointer (some ⟨B, 0, none⟩), .int .i64 m] w fun e w' => ∃ v zs, e = .returned v ∧ Own w' w.heap.size v zs ∧ zs.length ≤ m ∧ Byts zs ∧ Cur w' B ca len cap (n + 2 + m) ∧ Gr B w w' := by
  have hB := hc.lt
  have HC : Hid _ := hc
  have HD : Hid (∀ w1, Gr B w w1 → Code w1 B ca len) := fun w1 g => Code.below hd (g.below (by omega))
  clear hc hd
  obtain ⟨W, hW⟩ : ∃ W, w.heap.size = W := ⟨_, rfl⟩
  have HW : Hid (w.heap.size = W) := hW
  rw [hW] at hB ⊢
  clear hW
  go_enter Tryd.func69, Tryd.ntmps69
  go_wp2_with fail
  refine (pick_any w B ca len cap n ((m : Int) + 1) hl (by omega) (by omega) (by omega) HC.out (HD.out w (Gr.refl _ _))).mono ?_
  rintro e w1 ⟨k0, rfl, v0, v1, hc1, hb1⟩
  obtain ⟨K, rfl⟩ := Int.eq_ofNat_of_zero_le v0
  have C1 : Hid (Cur w1 B ca len cap (n + 2)) := hc1
  have G1 : Hid (Gr B w w1) := Gr.of_sel hb1
  clear hc1 hb1
  go_wp2
  go_loopw [5, 6] (fun v i wr => ∃ (k : Nat) (zs : List Int), i = .int .i64 (k : Int) ∧ k ≤ m ∧ zs.length + k ≤ m ∧ Own wr W v zs ∧ Byts zs ∧ Cur wr B ca len cap (n + 2 + (m - k)) ∧ Gr B w wr) (fun _ i _ => (intOf i).toNat)
  case atStart => exact ⟨K, [], rfl, by omega, by simp; omega, Own.nil _ _, (fun z hz => by cases hz), Cur.mono C1.out (by omega), G1.out⟩
  case round =>
    obtain ⟨k, zs, rfl, hk, hzl, ho, hby, hc, hg⟩ := hrel
    clear C1 G1 v1 HC
    obtain ⟨sa, sc, rfl⟩ := ho.shape
    have HO : Hid (Own wr W (.slice sa zs.length sc) zs) := ho
    have HC : Hid (Cur wr B ca len cap (n + 2 + (m - k))) := hc
    have HG : Hid (Gr B w wr) := hg
    have HBy : Hid (Byts zs) := hby
    clear ho hc hg hby
    by_cases hlt : 0 < k
    · have dk : decide (0 < (k : Int)) = true := by simp; omega
      go_wp2_with fail
      refine (next_any wr B ca len cap _ hl (by omega) HC.out (HD.out wr HG.out)).mono ?_
      rintro e w2 ⟨x, rfl, x0, x1, hc2, hb2⟩
      have C2 : Hid (Cur w2 B ca len cap (n + 2 + (m - k) + 1)) := hc2
      have G2 : Hid (Gr B w w2) := HG.out.trans (Gr.of_sel hb2)
      have O2 : Hid (Own w2 W (.slice sa zs.length sc) zs) := HO.out.gra (Gr.of_sel hb2) hB
      have hsz : W ≤ w2.heap.size := by have := G2.out.size; rw [HW.out] at this; exact this
      have HN : ∀ o, Hid (Nw w2 (w2.alloc o)) := fun o => (Below.refl _ _).alloc (Nat.le_refl _) o
      have hol : zs.length ≤ 1000000 := by omega
      have x3 : IntKind.u8.wrap x = x := by rw [IntKind.wrap_u8]; omega
      clear hc2 hb2 HC HG HO
      go_wp2_with (at_builtin; (refine wp_b _ rfl _ _ rfl W _ zs x rfl (Own.nw O2.out (HN _).out) _ rfl ?c1 hol ?c3 ?_))
      case c1 => simp
      case c3 => exact Nat.le_trans hsz (Below.size (HN _).out)
      intro v' w' h1 h2
      have O3 : Hid (Own w' W v' (zs ++ [x])) := h1
      have B3 : Hid (Byts (zs ++ [x])) := Byts.app HBy.out (Byts.one x0 x1)
      have C3 : Hid (Cur w' B ca len cap (n + 2 + (m - k) + 1)) := Cur.ext (Cur.alloc C2.out _ _) h2 (fun e => by have := (Own.lt O2.out B e).1; omega)
      have G3 : Hid (Gr B w w') := (G2.out.alloc _).exta h2 (fun g e => by rw [HW.out]; exact (Own.lt O2.out g e).1)
      obtain ⟨sa', sc', ev⟩ := Own.shape h1
      rw [show (zs ++ [x]).length = zs.length + 1 by simp] at ev
      subst ev
      clear h1 h2 C2 G2 O2
      obtain ⟨k1, rfl⟩ : ∃ k1, k = k1 + 1 := ⟨k - 1, by omega⟩
      go_wp2
      go_roundw
      case rel => exact ⟨k1, zs ++ [x], by go_num, by omega, by rw [List.length_append]; simp; omega, O3.out, B3.out, Cur.mono C3.out (by omega), G3.out⟩
      case measure => simp [intOf]
    · have e : k = 0 := by omega
      subst e
      have C2 : Hid (Cur wr B ca len cap (n + 2 + m)) := HC.out
      clear HC
      go_wp2
      go_ret
      exact ⟨_, zs, rfl, HO.out, by omega, HBy.out, C2.out, HG.out⟩
end Go.Proofs.YtaeicgfebeliiaaDoor
namespace Go.Proofs.YtaeicgfebeliiaaDoor
open Go.ChangeShapes Go.WideShapes Go.ChangeAt Go.RowKit
set_option linter.unusedVariables false

/-- What a draw holds between its steps. -/
structure Dat (W : Nat) (w wr : World) (B : Nat) (ca : Option Addr) (len cap n : Nat) (v : Value) (zs : List Int) : Prop where
  own : Own wr W v zs
  byt : Byts zs
  cur : Cur wr B ca len cap n
  gr : Gr B w wr
theorem Dat.put {W : Nat} {w w2 wa w' : World} {B : Nat} {ca : Option Addr} {len cap n n' : Nat} {v v' : Value} {zs ys : List Int} (hW : w.heap.size = W) (hB : B < W) (o : Own w2 W v zs) (b : Byts zs) (c : Cur wa B ca len cap n) (g : Gr B w wa) (o' : Own w' W v' (zs ++ ys)) (b' : Byts ys) (k : Ext v v' wa w') (hn : n ≤ n') : Dat W w w' B ca len cap n' v' (zs ++ ys) :=
  ⟨o', b.app b', Cur.mono (c.ext k (fun e => by have := (Own.lt o B e).1; omega)) hn, g.exta k (fun x e => by rw [hW]; exact (Own.lt o x e).1)⟩
theorem replicate_own (w : World) (n : Nat) (hl : n ≤ 1000000) : Own (w.alloc (.cells (madeCells (Value.int .u8 0).cells (n * 1)) 5)) w.heap.size (.slice (some ⟨w.heap.size, 0, none⟩) n n) (List.replicate n 0) := by
  refine Own.lit w w.heap.size (List.replicate n 0) n _ ?_ (by simp) (Nat.le_refl _) hl
  unfold vals madeCells
  rw [Nat.mul_one]
  apply List.ext_getElem
  · simp
  · intro i h1 h2
    simp [Value.cells, Nat.mod_one]
set_option maxRecDepth 100000 in
set_option maxHeartbeats 8000000 in
theorem data_any (w : World) (B : Nat) (ca : Option Addr) (len cap n : Nat) (hl : len ≤ 9223372036854775807) (hn : n ≤ 100000) (hc : Cur w B ca len cap n) (hd : Code w B ca len) :
    Calls Tryd.prog 40 #[.pointer (some ⟨B, 0, none⟩)] w fun e w' => ∃ v zs, e = .returned v ∧ Own w' w.heap.size v zs ∧ zs.length ≤ 10000 ∧ Byts zs ∧ Gr B w w' := by
  have hB := hc.lt
  have HC : Hid (Cur w B ca len cap n) := hc
  have HD : Hid (∀ w1, Gr B w w1 → Code w1 B ca len) := fun w1 g => Code.below hd (g.below (by omega))
  have hmk := fun k => run_mk 22 5 (.int .u8 0) 1 1 Tryd.underlying22 (by kernel_rfl) k
  clear hc hd
  obtain ⟨W, hW⟩ : ∃ W, w.heap.size = W := ⟨_, rfl⟩
  have HW : Hid (w.heap.size = W) := hW
  rw [hW] at hB ⊢
  have HM : Hid _ := hmk
  clear hW hmk
  go_enter Tryd.func40, Tryd.ntmps40
  go_wp2_with fail
  refine (pick_any w B ca len cap n 14 hl (by omega) (by omega) (by omega) HC.out (HD.out w (Gr.refl _ _))).mono ?_
  rintro e w1 ⟨k0, rfl, v0, v1, hc1, hb1⟩
  obtain ⟨K, rfl⟩ := Int.eq_ofNat_of_zero_le v0
  have D1 : Hid (Dat W w w1 B ca len cap (n + 2 + (13 - K) * 20) (.slice none 0 0) []) := ⟨Own.nil _ _, (fun z hz => by cases hz), hc1.mono (by omega), Gr.of_sel hb1⟩
  clear hc1 hb1 HC
  go_wp2
  go_loopw [3, 4] (fun v i wr => ∃ (k : Nat) (zs : List Int), i = .int .i64 (k : Int) ∧ k ≤ 13 ∧ zs.length ≤ 300 * (13 - k) ∧ Dat W w wr B ca len cap (n + 2 + (13 - k) * 20) v zs) (fun _ i _ => (intOf i).toNat)
  case atStart => exact ⟨K, [], rfl, by omega, by simp, D1.out⟩
  case round =>
    obtain ⟨k, zs, rfl, hk, hzl, hdt⟩ := hrel
    clear D1 v1
    obtain ⟨sa, sc, rfl⟩ := hdt.own.shape
    have HO : Hid (Own wr W (.slice sa zs.length sc) zs) := hdt.own
    have HC : Hid (Cur wr B ca len cap (n + 2 + (13 - k) * 20)) := hdt.cur
    have HG : Hid (Gr B w wr) := hdt.gr
    have HBy : Hid (Byts zs) := hdt.byt
    clear hdt
    by_cases hlt : 0 < k
    · have dk : decide (0 < (k : Int)) = true := by simp; omega
      obtain ⟨k1, rfl⟩ : ∃ k1, k = k1 + 1 := ⟨k - 1, by omega⟩
      obtain ⟨N, hN⟩ : ∃ N, n + 2 + (13 - (k1 + 1)) * 20 = N := ⟨_, rfl⟩
      have hN2 : N + 20 ≤ n + 2 + (13 - k1) * 20 := by omega
      have hNb : N ≤ 200000 := by omega
      rw [hN] at HC
      clear hN
      go_wp2_with fail
      refine (pick_any wr B ca len cap _ 4 hl (by omega) (by omega) (by omega) HC.out (HD.out wr HG.out)).mono ?_
      rintro e w2 ⟨q, rfl, q0, q1, hc2, hb2⟩
      have C2 : Hid (Cur w2 B ca len cap (N + 2)) := hc2
      have G2 : Hid (Gr B w w2) := HG.out.trans (Gr.of_sel hb2)
      have O2 : Hid (Own w2 W (.slice sa zs.length sc) zs) := HO.out.gra (Gr.of_sel hb2) hB
      have hsz2 : W ≤ w2.heap.size := by have := G2.out.size; rw [HW.out] at this; exact this
      clear hc2 hb2 HC HG HO
      rcases (show q = 0 ∨ q = 1 ∨ q = 2 ∨ q = 3 by omega) with rfl | rfl | rfl | rfl
      · go_wp2_with fail
        refine (next_any w2 B ca len cap _ hl (by omega) C2.out (HD.out w2 G2.out)).mono ?_
        rintro e w3 ⟨x, rfl, x0, x1, hc2, hb2⟩
        have C3 : Hid (Cur w3 B ca len cap (N + 3)) := hc2
        have G3 : Hid (Gr B w w3) := G2.out.trans (Gr.of_sel hb2)
        have O3 : Hid (Own w3 W (.slice sa zs.length sc) zs) := O2.out.gra (Gr.of_sel hb2) hB
        have hsz : W ≤ w3.heap.size := by have := G3.out.size; rw [HW.out] at this; exact this
        have HN : ∀ o, Hid (Nw w3 (w3.alloc o)) := fun o => (Below.refl _ _).alloc (Nat.le_refl _) o
        have hol : zs.length ≤ 1000000 := by omega
        have x3 : IntKind.u8.wrap x = x := by rw [IntKind.wrap_u8]; omega
        clear hc2 hb2 C2 G2 O2
        go_wp2_with (at_builtin; (refine wp_b _ rfl _ _ rfl W _ zs x rfl (Own.nw O3.out (HN _).out) _ rfl ?c1 hol ?c3 ?_))
        case c1 => simp
        case c3 => exact Nat.le_trans hsz (Below.size (HN _).out)
        intro v' w' h1 h2
        have D4 : Hid (Dat W w w' B ca len cap (n + 2 + (13 - k1) * 20) v' (zs ++ [x])) := Dat.put HW.out hB O3.out HBy.out (Cur.alloc C3.out _ _) (G3.out.alloc _) h1 (Byts.one x0 x1) h2 (by omega)
        obtain ⟨sa', sc', ev⟩ := Own.shape h1
        have hll : (zs ++ [x]).length = zs.length + 1 := by simp
        rw [hll] at ev
        subst ev
        clear h1 h2 C3 G3 O3
        go_wp2
        go_roundw
        case rel => exact ⟨k1, zs ++ [x], by go_num, by omega, by rw [hll]; omega, D4.out⟩
        case measure => simp [intOf]
      · go_wp2_with fail
        refine Calls.mono (of_lit w2 B 11 [⟨#[97, 98, 99]⟩, ⟨#[97, 98, 99, 97, 98, 99]⟩, ⟨#[104, 101, 108, 108, 111, 32, 119, 111, 114, 108, 100]⟩, ⟨#[0, 0, 0, 0]⟩] (by
          intro x hx
          simp at hx
          rcases hx with rfl | rfl | rfl | rfl <;> decide) 9 ca len cap (N + 2) hl (by omega) (by decide) (by decide) C2.out (HD.out w2 G2.out)) ?_
        rintro e w3 ⟨x, rfl, hx, hc2, hb2⟩
        have C3 : Hid (Cur w3 B ca len cap (N + 4)) := hc2
        have G3 : Hid (Gr B w w3) := G2.out.trans hb2
        have O3 : Hid (Own w3 W (.slice sa zs.length sc) zs) := O2.out.gra hb2 hB
        have hsz : W ≤ w3.heap.size := by have := G3.out.size; rw [HW.out] at this; exact this
        have hol : zs.length + x.size ≤ 10000000 := by omega
        clear hc2 hb2 C2 G2 O2
        go_wp2_with (at_builtin; (refine wp_strA _ rfl _ _ rfl W _ zs rfl O3.out x rfl hol hsz ?_))
        intro v' w' h1 h2
        have D4 : Hid (Dat W w w' B ca len cap (n + 2 + (13 - k1) * 20) v' (zs ++ strInts x)) := Dat.put HW.out hB O3.out HBy.out C3.out G3.out h1 (Byts.str x) h2 (by omega)
        obtain ⟨sa', sc', ev⟩ := Own.shape h1
        have hll : (zs ++ strInts x).length = zs.length + x.size := by rw [List.length_append, strInts_len]
        rw [hll] at ev
        subst ev
        clear h1 h2 C3 G3 O3
        go_wp2
        go_roundw
        case rel => exact ⟨k1, zs ++ strInts x, by go_num, by omega, by rw [hll]; omega, D4.out⟩
        case measure => simp [intOf]
      · go_wp2_with fail
        refine (pick_any w2 B ca len cap _ 4 hl (by omega) (by omega) (by omega) C2.out (HD.out w2 G2.out)).mono ?_
        rintro e w3 ⟨x, rfl, x0, x1, hc2, hb2⟩
        have C3 : Hid (Cur w3 B ca len cap (N + 4)) := hc2
        have G3 : Hid (Gr B w w3) := G2.out.trans (Gr.of_sel hb2)
        have O3 : Hid (Own w3 W (.slice sa zs.length sc) zs) := O2.out.gra (Gr.of_sel hb2) hB
        have x3 : IntKind.u8.wrap x = x := by rw [IntKind.wrap_u8]; omega
        clear hc2 hb2 C2 G2 O2
        go_wp2_with fail
        refine (pick_any w3 B ca len cap _ 300 hl (by omega) (by omega) (by omega) C3.out (HD.out w3 G3.out)).mono ?_
        rintro e w4 ⟨y, rfl, y0, y1, hc2, hb2⟩
        obtain ⟨Y, rfl⟩ := Int.eq_ofNat_of_zero_le y0
        have D4 : Hid (Dat W w w4 B ca len cap (N + 6) (.slice sa zs.length sc) zs) := ⟨O3.out.gra (Gr.of_sel hb2) hB, HBy.out, hc2, G3.out.trans (Gr.of_sel hb2)⟩
        clear hc2 hb2 C3 G3 O3 x3
        go_wp2
        go_loopw [3, 6] (fun v i wr => ∃ (j : Nat) (ys : List Int), i = .int .i64 (j : Int) ∧ j ≤ 299 ∧ ys.length + j ≤ zs.length + 299 ∧ Dat W w wr B ca len cap (N + 6) v ys) (fun _ i _ => (intOf i).toNat)
        case atStart => exact ⟨Y, zs, rfl, by omega, by omega, D4.out⟩
        case round =>
          obtain ⟨j, ys, rfl, hj, hyl, hdt⟩ := hrel
          clear D4
          obtain ⟨sa2, sc2, rfl⟩ := hdt.own.shape
          have HDt : Hid (Dat W w wr B ca len cap (N + 6) (.slice sa2 ys.length sc2) ys) := hdt
          have HO : Hid (Own wr W (.slice sa2 ys.length sc2) ys) := hdt.own
          have hsz : W ≤ wr.heap.size := by have := hdt.gr.size; rw [HW.out] at this; exact this
          clear hdt
          by_cases hj0 : 0 < j
          · have dj : decide (0 < (j : Int)) = true := by simp; omega
            obtain ⟨j1, rfl⟩ : ∃ j1, j = j1 + 1 := ⟨j - 1, by omega⟩
            have HN : ∀ o, Hid (Nw wr (wr.alloc o)) := fun o => (Below.refl _ _).alloc (Nat.le_refl _) o
            have hol : ys.length ≤ 1000000 := by omega
            go_wp2_with (at_builtin; (refine wp_b _ rfl _ _ rfl W _ ys x rfl (Own.nw HO.out (HN _).out) _ rfl ?c1 hol ?c3 ?_))
            case c1 => simp
            case c3 => exact Nat.le_trans hsz (Below.size (HN _).out)
            intro v' w' h1 h2
            have D5 : Hid (Dat W w w' B ca len cap (N + 6) v' (ys ++ [x])) := Dat.put HW.out hB HO.out HDt.out.byt (Cur.alloc HDt.out.cur _ _) (HDt.out.gr.alloc _) h1 (Byts.one x0 (by omega)) h2 (Nat.le_refl _)
            obtain ⟨sa', sc', ev⟩ := Own.shape h1
            have hll : (ys ++ [x]).length = ys.length + 1 := by simp
            rw [hll] at ev
            subst ev
            clear h1 h2
            go_wp2
            go_roundw
            case rel => exact ⟨j1, ys ++ [x], by go_num, by omega, by rw [hll]; omega, D5.out⟩
            case measure => simp [intOf]
          · have e : j = 0 := by omega
            subst e
            have D5 : Hid (Dat W w wr B ca len cap (n + 2 + (13 - k1) * 20) (.slice sa2 ys.length sc2) ys) := ⟨HDt.out.own, HDt.out.byt, HDt.out.cur.mono (by omega), HDt.out.gr⟩
            go_wp2
            go_roundw
            case rel => exact ⟨k1, ys, by go_num, by omega, by omega, D5.out⟩
            case measure => simp [intOf]
      · go_wp2_with fail
        refine Calls.mono (bytes_any w2 B ca len cap (N + 2) 6 hl (by omega) (by omega) C2.out (HD.out w2 G2.out)) ?_
        rintro e w3 ⟨u, ys, rfl, o3, hyl, hyb, hc2, hb2⟩
        have C3 : Hid (Cur w3 B ca len cap (N + 2 + 2 + 6)) := hc2
        have G3 : Hid (Gr B w w3) := G2.out.trans hb2
        have O3 : Hid (Own w3 W (.slice sa zs.length sc) zs) := O2.out.gra hb2 hB
        have U3 : Hid (Own w3 w2.heap.size u ys) := o3
        have Y3 : Hid (Byts ys) := hyb
        have hsz : W ≤ w3.heap.size := by have := G3.out.size; rw [HW.out] at this; exact this
        have hol : zs.length + ys.length ≤ 10000000 := by omega
        clear hc2 hb2 C2 G2 O2 o3 hyb
        go_wp2_with (at_builtin; (refine wp_appA _ rfl _ _ rfl W w2.heap.size _ u zs ys rfl O3.out rfl U3.out hol hsz ?_))
        intro v' w' h1 h2
        have D4 : Hid (Dat W w w' B ca len cap (n + 2 + (13 - k1) * 20) v' (zs ++ ys)) := Dat.put HW.out hB O3.out HBy.out C3.out G3.out h1 Y3.out h2 (by omega)
        obtain ⟨sa', sc', ev⟩ := Own.shape h1
        have hll : (zs ++ ys).length = zs.length + ys.length := List.length_append
        rw [hll] at ev
        subst ev
        clear h1 h2 C3 G3 O3
        go_wp2
        go_roundw
        case rel => exact ⟨k1, zs ++ ys, by go_num, by omega, by rw [hll]; omega, D4.out⟩
        case measure => simp [intOf]
    · have e : k = 0 := by omega
      subst e
      go_wp2_with fail
      refine (one_any wr B ca len cap _ 60 hl (by omega) (by omega) (by omega) HC.out (HD.out wr HG.out)).mono ?_
      rintro e w2 ⟨o, rfl, hc2, hb2⟩
      have C2 : Hid (Cur w2 B ca len cap (n + 2 + (13 - 0) * 20 + 2)) := hc2
      have G2 : Hid (Gr B w w2) := HG.out.trans (Gr.of_sel hb2)
      have O2 : Hid (Own w2 W (.slice sa zs.length sc) zs) := HO.out.gra (Gr.of_sel hb2) hB
      clear hc2 hb2 HC HG HO
      cases o with
      | false =>
        go_wp2
        go_ret
        exact ⟨_, zs, rfl, O2.out, by omega, HBy.out, G2.out⟩
      | true =>
        go_wp2_with fail
        refine (pick_any w2 B ca len cap _ 2 hl (by omega) (by omega) (by omega) C2.out (HD.out w2 G2.out)).mono ?_
        rintro e w3 ⟨q, rfl, q0, q1, hc2, hb2⟩
        have G3 : Hid (Gr B w w3) := G2.out.trans (Gr.of_sel hb2)
        have hsz : W ≤ w3.heap.size := by have := G3.out.size; rw [HW.out] at this; exact this
        clear hc2 hb2 C2 G2 O2
        have fin : ∀ m : Nat, m ≤ 6001 → Hid (∃ C, (∀ w0, (Instr.makeSlice 22 (.int .i64 (m : Int)) (.int .i64 (m : Int))).run Tryd.prog w0 = .ok (.slice (some ⟨w0.heap.size, 0, none⟩) m m) (w0.alloc (.cells C 5))) ∧ Own (w3.alloc (.cells C 5)) W (.slice (some ⟨w3.heap.size, 0, none⟩) m m) (List.replicate m 0)) := fun m hm =>
          ⟨_, fun w0 => HM.out m (by omega) (by omega) w0, Own.base (replicate_own w3 m (by omega)) hsz⟩
        have byz : ∀ m : Nat, Hid (Byts (List.replicate m 0)) := fun m z hz => by
          rw [List.eq_of_mem_replicate hz]; omega
        rcases (show q = 0 ∨ q = 1 by omega) with rfl | rfl
        · obtain ⟨C, hm, ho⟩ := (fin 6000 (by omega)).out
          have HOo : Hid _ := ho
          have hm' : ∀ w0, (Instr.makeSlice 22 (.int .i64 6000) (.int .i64 6000)).run Tryd.prog w0 = .ok (.slice (some ⟨w0.heap.size, 0, none⟩) 6000 6000) (w0.alloc (.cells C 5)) := hm
          clear hm ho fin
          go_wp2
          go_ret
          exact ⟨_, _, rfl, HOo.out, by rw [List.length_replicate]; omega, (byz 6000).out, G3.out.alloc _⟩
        · obtain ⟨C, hm, ho⟩ := (fin 6001 (by omega)).out
          have HOo : Hid _ := ho
          have hm' : ∀ w0, (Instr.makeSlice 22 (.int .i64 6001) (.int .i64 6001)).run Tryd.prog w0 = .ok (.slice (some ⟨w0.heap.size, 0, none⟩) 6001 6001) (w0.alloc (.cells C 5)) := hm
          clear hm ho fin
          go_wp2
          go_ret
          exact ⟨_, _, rfl, HOo.out, by rw [List.length_replicate]; omega, (byz 6001).out, G3.out.alloc _⟩
end Go.Proofs.YtaeicgfebeliiaaDoor
namespace Go.Proofs.YtaeicgfebeliiaaDoor
open Go.ChangeShapes Go.WideShapes Go.ChangeAt Go.RowKit
set_option linter.unusedVariables false

theorem cells_int {W : World} {b : Nat} {ds : List Nat} (hc : ∀ i, i < ds.length → W.cell? ⟨b, 0 + i, none⟩ = some (.int .u8 ((ds.getD i 0 : Nat) : Int))) : ∀ i, i < (ints ds).length → W.cell? ⟨b, 0 + i, none⟩ = some (.int .u8 ((ints ds).getD i 0)) := by
  intro i hi
  rw [ints_len] at hi
  rw [ints_get]
  exact hc i hi
set_option maxHeartbeats 2000000 in
theorem ibestA (W : World) (a : Option Addr) (b cap : Nat) (ds : List Nat) (J : Nat) (hJ : Ends (ints ds) J) (ht : Tabs W) (hl : ds.length ≤ 6000) (h8 : ∀ d ∈ ds, d < 256) (hb0 : b < W.heap.size) (hc0 : ∀ i, i < ds.length → W.cell? ⟨b, 0 + i, none⟩ = some (.int .u8 ((ds.getD i 0 : Nat) : Int))) (hnil : ds = [] ∨ a = some ⟨b, 0, none⟩) :
    Calls Tryd.prog 6 #[.slice a ds.length cap] W fun e w' => ∃ g c, e = .returned (.tuple #[.slice (some ⟨g, 0, none⟩) (bestL ds J).length c, .bool true]) ∧ Made W w' g (ints (bestL ds J)) := by
  have H1 : Hid _ := istoredA W a b cap ds hl h8 hb0 hc0 hnil
  have h4 : 4 ≤ W.heap.size := ht.2.2.2.2
  have H2 : Hid (∀ w1, Below W.heap.size W w1 → Calls Tryd.prog 9 #[.slice a ds.length cap] w1 fun e w' => ∃ g c, e = .returned (.tuple #[.slice (some ⟨g, 0, none⟩) (outB (ints ds) J).length c, .bool true]) ∧ Gave w1 w' g (outB (ints ds) J) c) := by
    intro w1 hb
    have h := ifixA w1 a b cap (ints ds) J hJ (ht.below hb h4) (by rw [ints_len]; exact hl) (ints_bd ds h8) (Nat.lt_of_lt_of_le hb0 (Below.size hb)) (fun i hi => (Below.cell hb (p := ⟨b, 0 + i, none⟩) hb0).trans (cells_int hc0 i hi)) (hnil.imp (fun e => by rw [e]; rfl) id)
    rw [ints_len] at h
    exact h
  have hsl := stored_len ds
  have hpos := outB_pos (ints ds) J
  unfold bestL
  clear hJ ht h8 hc0 hnil
  by_cases hlt : (outB (ints ds) J).length < ds.length + 5
  · rw [if_pos hlt]
    have d1 : decide (((outB (ints ds) J).length : Int) < ((stored ds).length : Int)) = true := by simp; omega
    have d2 : decide ((outB (ints ds) J).length < (stored ds).length) = true := by simp; omega
    generalize outB (ints ds) J = O at *
    generalize stored ds = T at *
    clear hlt hsl
    go_enter Tryd.func6, Tryd.ntmps6
    go_wp2_with fail
    refine Calls.mono H1.out ?_
    rintro e w1 ⟨g1, c1, rfl, hg⟩
    have HB : Hid (Below W.heap.size W w1) := hg.1
    clear hg
    go_wp2_with fail
    refine Calls.mono (H2.out w1 HB.out) ?_
    rintro e w2 ⟨g2, c2, rfl, hg⟩
    have HM : Hid (Made W w2 g2 (ints O)) := ⟨Nw.trans HB.out hg.1, Nat.le_trans (Below.size HB.out) hg.2.1, At.gave hg⟩
    clear hg
    go_wp2
    go_ret2
    exact ⟨_, _, rfl, HM.out⟩
  · rw [if_neg hlt]
    have d1 : decide (((outB (ints ds) J).length : Int) < ((stored ds).length : Int)) = false := by simp; omega
    have d2 : decide ((outB (ints ds) J).length < (stored ds).length) = false := by simp; omega
    generalize outB (ints ds) J = O at *
    generalize stored ds = T at *
    clear hlt hsl
    go_enter Tryd.func6, Tryd.ntmps6
    go_wp2_with fail
    refine Calls.mono H1.out ?_
    rintro e w1 ⟨g1, c1, rfl, hg⟩
    have HB : Hid (Below W.heap.size W w1) := hg.1
    have HA : Hid (At w1 g1 (ints T)) := At.gave hg
    have HZ : Hid (W.heap.size ≤ g1) := hg.2.1
    clear hg
    go_wp2_with fail
    refine Calls.mono (H2.out w1 HB.out) ?_
    rintro e w2 ⟨g2, c2, rfl, hg⟩
    have HM : Hid (Made W w2 g1 (ints T)) := ⟨Nw.trans HB.out hg.1, HZ.out, At.nw HA.out hg.1⟩
    clear hg
    go_wp2
    go_ret2
    exact ⟨_, _, rfl, HM.out⟩
theorem ends_nil {J : Nat} (h : Ends (ints []) J) : J = 0 := by
  by_cases e : J = 0
  · exact e
  · exact absurd (h.2 0 (by omega)) (Nat.not_lt_zero _)
set_option maxRecDepth 100000 in
theorem outB_nil : (outB (ints []) 0).length < 0 + 5 := by decide +kernel
set_option maxHeartbeats 2000000 in
theorem sl2best0 (W : World) (cap J : Nat) (hJ : Ends (ints []) J) (h0 : 0 < W.heap.size) :
    Calls Tryd.prog 18 #[.slice none 0 cap] W fun e w' => ∃ g c, e = .returned (.slice (some ⟨g, 0, none⟩) (bestL [] J).length c) ∧ Made W w' g (ints (bestL [] J)) := by
  have H1 : Hid (Calls Tryd.prog 41 #[.slice none 0 cap] W fun e w' => ∃ g c, e = .returned (.slice (some ⟨g, 0, none⟩) (outB (ints []) J).length c) ∧ Gave W w' g (outB (ints []) J) c) :=
    sfixA W none 0 cap (ints []) J hJ (Nat.zero_le _) (fun i hi => absurd hi (Nat.not_lt_zero _)) h0 (fun i hi => absurd hi (Nat.not_lt_zero _)) (Or.inl rfl)
  have hlt : (outB (ints []) J).length < 0 + 5 := by rw [ends_nil hJ]; exact outB_nil
  have e1 : bestL [] J = outB (ints []) J := by unfold bestL; exact if_pos hlt
  rw [e1]
  clear hJ e1
  have d1 : decide (((outB (ints []) J).length : Int) < 5) = true := by simp; omega
  generalize outB (ints []) J = O at *
  clear hlt
  go_enter Tryd.func18, Tryd.ntmps18
  go_wp2_with fail
  refine Calls.mono H1.out ?_
  rintro e w1 ⟨g1, c1, rfl, hg⟩
  have HM : Hid (Made W w1 g1 (ints O)) := ⟨hg.1, hg.2.1, At.gave hg⟩
  clear hg
  go_wp2
  go_ret
  exact ⟨_, _, rfl, HM.out⟩
set_option maxHeartbeats 1000000 in
theorem sbest0 (W : World) (cap J : Nat) (hJ : Ends (ints []) J) (h0 : 0 < W.heap.size) :
    Calls Tryd.prog 7 #[.slice none 0 cap] W fun e w' => ∃ g c, e = .returned (.tuple #[.slice (some ⟨g, 0, none⟩) (bestL [] J).length c, .bool true]) ∧ Made W w' g (ints (bestL [] J)) := by
  have HC : Hid _ := sl2best0 W cap J hJ h0
  clear hJ
  go_enter Tryd.func7, Tryd.ntmps7
  go_wp2_with fail
  refine Calls.mono HC.out ?_
  rintro e w1 ⟨g, c, rfl, hg⟩
  have HG : Hid (Made W w1 g (ints (bestL [] J))) := hg
  clear hg
  go_wp2
  go_ret2
  exact ⟨_, _, rfl, HG.out⟩
end Go.Proofs.YtaeicgfebeliiaaDoor
