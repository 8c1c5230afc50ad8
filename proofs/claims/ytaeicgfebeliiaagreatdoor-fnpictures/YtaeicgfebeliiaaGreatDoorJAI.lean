/-
  Lists of bytes of a draw, to which is appended; each theorem names its conditions.
  What the specification's draw of pixels answers: some bytes, and of what was there nothing but the reader is written; each theorem names its conditions.
  What the specification's reader of choices answers of a list of numbers: one of them; each theorem names its conditions.
  What the specification's draws of pictures and rows answer: some bytes, and nothing that was there is written; each theorem names its conditions.
-/
import Derived.Test.YtaeicgfebeliiaaGreatDoorJAH
import Derived.Test.YtaeicgfebeliiaaGreatDoorJAG
namespace Go.Proofs.YtaeicgfebeliiaaGreatDoor
open Go.ChangeShapes Go.WideShapes Go.ChangeAt Go.RowKit
set_option linter.unusedVariables false

theorem Own.gra {w w' : World} {B S : Nat} {v : Value} {zs : List Int} (h : Own w B v zs) (k : Gr S w w') (hS : S < B) : Own w' B v zs :=
  World.ownsRow.kept h k (Or.inr fun e => by have := (Own.lt h S e).1; omega)
theorem Cur.ext {w w' : World} {B : Nat} {ca : Option Addr} {len cap n : Nat} {v v' : Value} (h : Cur w B ca len cap n) (k : Ext v v' w w') (hne : v.ownBlock ≠ some B) : Cur w' B ca len cap n := by
  have hB := h.lt
  obtain ⟨i, sd, h1, h2, h3, c0, c1, c2, hf, _⟩ := h
  exact ⟨i, sd, h1, h2, h3, (Ext.cell k hB hne _).trans c0, (Ext.cell k hB hne _).trans c1, (Ext.cell k hB hne _).trans c2, fun o => (World.frozen?_of_block (w := w) (a := ⟨B, o, none⟩) (k.1.block B hB (fun e => hne e.symm))).trans (hf o), Nat.lt_of_lt_of_le hB k.1.size⟩
theorem Gr.exta {S : Nat} {W w w' : World} {v v' : Value} (h : Gr S W w) (k : Ext v v' w w') (hv : ∀ g, v.ownBlock = some g → W.heap.size ≤ g) : Gr S W w' :=
  ⟨k.1.os.trans (World.grownBy.os h), k.1.tape.trans (World.grownBy.tape h), k.1.output.trans (World.grownBy.output h), Nat.le_trans h.size k.1.size, fun i hi hne => (k.1.block i (Nat.lt_of_lt_of_le hi h.size) (fun e => by have := hv i e.symm; omega)).trans (World.grownBy.block h i hi hne)⟩
/-- A text is appended to a list that may be none. -/
theorem run_strA (w : World) (ty : TypeId) (B : Nat) (v : Value) (zs : List Int) (hown : Own w B v zs) (s : ByteArray) (h63 : zs.length + s.size ≤ 10000000) (hB : B ≤ w.heap.size) :
    ∃ v' w', (Builtin.append_ #[22, 9] ty #[v, .string s]).run Tryz.prog w = .ok v' w' ∧ Own w' B v' (zs ++ strInts s) ∧ Ext v v' w w' := by
  rcases hown.form with ⟨rfl, rfl⟩ | ⟨g, c, rfl, _⟩
  · obtain ⟨i0, hi, hz0, hz1, hz2⟩ := info_parts Tryz.info5
    have hu : Tryz.prog.underlying 9 = some .string := Tryz.underlying9
    obtain ⟨v', w', hr, h1, h2, h3⟩ := Lib.run_append_own_string (P := Tryz.prog) w w.heap.size 22 9 ty 5 i0 Tryz.underlying22 hu hi hz0 hz1 hz2 (.slice none 0 0) 0 [] (World.ownsRow_nil _ _ _ _) s (by unfold maxLen; simp at h63; omega) (by simp at h63; omega) (Nat.le_refl _)
    have ho : Own w' w.heap.size v' (strInts s) := by
      unfold Own
      rw [strInts_len, strInts_vals]
      simpa using h1
    refine ⟨v', w', hr, by rw [List.nil_append]; exact Own.base ho hB, h2, ?_⟩
    rcases ho.form with ⟨e, _⟩ | ⟨g, c, e, hg, _⟩
    · rw [e]; exact Or.inl rfl
    · rw [e]; exact Or.inr ⟨g, rfl, hg⟩
  · exact run_str w ty B g _ c zs hown s h63 hB
theorem wp_strA (w : World) {ops : Array Oper} {rest : List Oper} {o : Oper} {a : Act} {Q : Exit → Act → World → Prop} (hgd : o.guard = none) (sl x : Operand)
    (ho : o.op = .call { callee := .builtin .append, args := #[sl, x], argTypes := #[22, 9] })
    (B : Nat) (v : Value) (zs : List Int) (hs : a.eval sl = v) (hown : Own w B v zs) (s : ByteArray) (hx : a.eval x = .string s)
    (h63 : zs.length + s.size ≤ 10000000) (hB : B ≤ w.heap.size)
    (h : ∀ v' w', Own w' B v' (zs ++ strInts s) → Ext v v' w w' → wpList Tryz.prog ops Q rest (a.put o.dst v') w') : wpList Tryz.prog ops Q (o :: rest) a w := by
  refine wpList_plain hgd fun K hK => ?_
  obtain ⟨v', w', hr, h1, h2⟩ := run_strA w o.type B v zs hown s h63 hB
  unfold Oper.wp execOp
  simp only [ho, resolve, invoke, builtin, Sem.run_bind, Sem.run_pure, Result.andThen_ok, List.map_toArray, List.map_cons, List.map_nil, hs, hx, hr]
  exact hK _ _ (h v' w' h1 h2)
/-- A list that may be none is appended. -/
theorem wp_appA (w : World) {ops : Array Oper} {rest : List Oper} {o : Oper} {a : Act} {Q : Exit → Act → World → Prop} (hgd : o.guard = none) (s x : Operand)
    (ho : o.op = .call { callee := .builtin .append, args := #[s, x], argTypes := #[22, 22] })
    (B B2 : Nat) (v u : Value) (zs ys : List Int) (hs : a.eval s = v) (hown : Own w B v zs) (hx : a.eval x = u) (hu : Own w B2 u ys)
    (h63 : zs.length + ys.length ≤ 10000000) (hB : B ≤ w.heap.size)
    (h : ∀ v' w', Own w' B v' (zs ++ ys) → Ext v v' w w' → wpList Tryz.prog ops Q rest (a.put o.dst v') w') : wpList Tryz.prog ops Q (o :: rest) a w := by
  rcases hu.form with ⟨rfl, rfl⟩ | ⟨g, c, rfl, _, _, hA⟩
  · obtain ⟨i0, hi, hz0, hz1, hz2⟩ := info_parts Tryz.info5
    obtain ⟨va, vn, vc, rfl, hvc⟩ : ∃ va vn vc, v = .slice va vn vc ∧ vn ≤ vc := by
      rcases hown.2 with ⟨hn, h0⟩ | ⟨g', cap, cur, e1, _, _, e2, e3, _⟩
      · exact ⟨_, _, _, hn, Nat.le_refl _⟩
      · exact ⟨_, _, _, e1, e2⟩
    have hr := run_append_nothing (P := Tryz.prog) w 22 22 o.type 5 i0 Tryz.underlying22 hi va vn vc hvc (.slice none 0 0) (Src.ofNil w Tryz.underlying22 0)
    refine wpList_plain hgd fun K hK => ?_
    unfold Oper.wp execOp
    simp only [ho, resolve, invoke, builtin, Sem.run_bind, Sem.run_pure, Result.andThen_ok, List.map_toArray, List.map_cons, List.map_nil, hs, hx, hr]
    exact hK _ _ (h _ _ (by rw [List.append_nil]; exact hown) (Ext.refl _ _))
  · exact wp_app w hgd s x ho B v zs ys hs hown g 0 _ c hx rfl hA.lie h63 hB h
/-- All of them are bytes. -/
def Byts (zs : List Int) : Prop := ∀ z ∈ zs, 0 ≤ z ∧ z ≤ 255
theorem Byts.app {a b : List Int} (h : Byts a) (k : Byts b) : Byts (a ++ b) := fun z hz => (List.mem_append.1 hz).elim (h z) (k z)
theorem Byts.one {x : Int} (h0 : 0 ≤ x) (h1 : x ≤ 255) : Byts [x] := fun z hz => by rw [List.mem_singleton.1 hz]; exact ⟨h0, h1⟩
theorem Byts.str (s : ByteArray) : Byts (strInts s) := fun z hz => by
  unfold strInts at hz
  obtain ⟨b, _, rfl⟩ := List.mem_map.1 hz
  have := b.toNat_lt
  omega
/-- What a draw holds between its steps. -/
structure Dat (W : Nat) (w wr : World) (B : Nat) (ca : Option Addr) (len cap n : Nat) (v : Value) (zs : List Int) : Prop where
  own : Own wr W v zs
  byt : Byts zs
  cur : Cur wr B ca len cap n
  gr : Gr B w wr
theorem Dat.put {W : Nat} {w w2 wa w' : World} {B : Nat} {ca : Option Addr} {len cap n n' : Nat} {v v' : Value} {zs ys : List Int} (hW : w.heap.size = W) (hB : B < W) (o : Own w2 W v zs) (b : Byts zs) (c : Cur wa B ca len cap n) (g : Gr B w wa) (o' : Own w' W v' (zs ++ ys)) (b' : Byts ys) (k : Ext v v' wa w') (hn : n ≤ n') : Dat W w w' B ca len cap n' v' (zs ++ ys) :=
  ⟨o', b.app b', Cur.mono (c.ext k (fun e => by have := (Own.lt o B e).1; omega)) hn, g.exta k (fun x e => by rw [hW]; exact (Own.lt o x e).1)⟩
theorem replicate_own (w : World) (n : Nat) (hl : n ≤ 1000000) : Own (w.alloc (.cells (madeCells (Value.int .u8 0).cells (n * 1)) 5)) w.heap.size (.slice (some ⟨w.heap.size, 0, none⟩) n n) (List.replicate n 0) := by
  refine Own.lit w w.heap.size (List.replicate n 0) n _ ?_ (by simp) (Nat.le_refl _) hl
  unfold vals madeCells
  rw [Nat.mul_one]
  apply List.ext_getElem
  · simp
  · intro i h1 h2
    simp [Value.cells, Nat.mod_one]
end Go.Proofs.YtaeicgfebeliiaaGreatDoor
namespace Go.Proofs.YtaeicgfebeliiaaGreatDoor
open Go.ChangeShapes Go.WideShapes Go.ChangeAt Go.RowKit
set_option linter.unusedVariables false

/-- A list of bytes that is being written, in the block W. -/
structure PxS (W M : Nat) (w wr : World) (B : Nat) (ca : Option Addr) (len cap n : Nat) (zs : List Int) : Prop where
  own : Own wr W (.slice (some ⟨W, 0, none⟩) M M) zs
  lz : zs.length = M
  byt : Byts zs
  cur : Cur wr B ca len cap n
  gr : Gr B w wr
theorem byts_set {zs : List Int} (h : Byts zs) (k : Nat) (x : Int) (h0 : 0 ≤ x) (h1 : x ≤ 255) : Byts (zs.set k x) := fun z hz => by
  rcases List.mem_or_eq_of_mem_set hz with e | e
  · exact h z e
  · rw [e]; exact ⟨h0, h1⟩
theorem PxS.store {W M : Nat} {w wr : World} {B : Nat} {ca : Option Addr} {len cap n : Nat} {zs : List Int} (h : PxS W M w wr B ca len cap n zs) (hW : w.heap.size = W) (hB : B < W) (k : Nat) (x : Int) (h0 : 0 ≤ x) (h1 : x ≤ 255) : PxS W M w (wr.setCell ⟨W, k, none⟩ (.int .u8 x)) B ca len cap n (zs.set k x) := by
  have hl := h.lz
  have ho := h.own
  refine ⟨?_, by rw [List.length_set]; exact hl, byts_set h.byt k x h0 h1, h.cur.set (by omega) _ _, h.gr.set (by omega) _ _⟩
  unfold Own at ho ⊢
  rw [hl] at ho
  have e : vals (zs.set k x) = (vals zs).set k (.int .u8 x) := by unfold vals; rw [List.map_set]
  rw [List.length_set, hl, e]
  exact (World.ownsRow.stored ho k (.int .u8 x)).1
theorem PxS.cell {W M : Nat} {w wr : World} {B : Nat} {ca : Option Addr} {len cap n : Nat} {zs : List Int} (h : PxS W M w wr B ca len cap n zs) (k : Nat) (hk : k < M) : (∃ u, wr.cell? ⟨W, k, none⟩ = some (.int .u8 u)) ∧ wr.frozen? ⟨W, k, none⟩ = false := by
  have ho := h.own
  have hl := h.lz
  rcases ho.form with ⟨e, _⟩ | ⟨g, c, e, _, _, hA⟩
  · cases e
  · injection e with e1
    injection e1 with e1
    injection e1 with e1
    subst e1
    have := hA.2.1 k (by omega)
    rw [Nat.zero_add] at this
    exact ⟨⟨_, this⟩, hA.2.2 k⟩
theorem PxS.sel {W M : Nat} {w wr w2 : World} {B : Nat} {ca : Option Addr} {len cap n n' : Nat} {zs : List Int} (h : PxS W M w wr B ca len cap n zs) (hB : B < W) (k : Sel B wr w2) (hc : Cur w2 B ca len cap n') : PxS W M w w2 B ca len cap n' zs :=
  ⟨h.own.gra (Gr.of_sel k) hB, h.lz, h.byt, hc, h.gr.trans (Gr.of_sel k)⟩
theorem PxS.more {W M : Nat} {w wr : World} {B : Nat} {ca : Option Addr} {len cap n n' : Nat} {zs : List Int} (h : PxS W M w wr B ca len cap n zs) (hn : n ≤ n') : PxS W M w wr B ca len cap n' zs := ⟨h.own, h.lz, h.byt, h.cur.mono hn, h.gr⟩
set_option maxRecDepth 100000 in
set_option maxHeartbeats 8000000 in
theorem pixelsOf_any (w : World) (B : Nat) (ca : Option Addr) (len cap n m : Nat) (hl : len ≤ 9223372036854775807) (hn : n ≤ 100000) (hm : m ≤ 300) (hc : Cur w B ca len cap n) (hd : Code w B ca len) :
    Calls Tryz.prog 37 #[.pointer (some ⟨B, 0, none⟩), .int .i64 m] w fun e w' => ∃ zs, e = .returned (.slice (some ⟨w.heap.size, 0, none⟩) (4 * m) (4 * m)) ∧ zs.length = 4 * m ∧ Own w' w.heap.size (.slice (some ⟨w.heap.size, 0, none⟩) (4 * m) (4 * m)) zs ∧ Byts zs ∧ Cur w' B ca len cap (n + 10000) ∧ Gr B w w' := by
  have hB := hc.lt
  have HD : Hid (∀ w1, Gr B w w1 → Code w1 B ca len) := fun w1 g => Code.below hd (g.below (by omega))
  have h4 : (4 : Int) * (m : Int) = ((4 * m : Nat) : Int) := by omega
  obtain ⟨M, hM⟩ : ∃ M, 4 * m = M := ⟨_, rfl⟩
  rw [hM] at h4 ⊢
  have hmk := run_mk 22 5 (.int .u8 0) 1 1 Tryz.underlying22 (by kernel_rfl) M (by omega) (by omega)
  have ho0 := replicate_own w M (by omega)
  obtain ⟨C, hC⟩ : ∃ C, madeCells (Value.int .u8 0).cells (M * 1) = C := ⟨_, rfl⟩
  rw [hC] at hmk ho0
  obtain ⟨W, hW⟩ : ∃ W, w.heap.size = W := ⟨_, rfl⟩
  have HW : Hid (w.heap.size = W) := hW
  rw [hW] at hB ho0 ⊢
  obtain ⟨W1, hW1⟩ : ∃ W', w.alloc (.cells C 5) = W' := ⟨_, rfl⟩
  have HW1 : Hid (_ = W1) := hW1
  rw [hW1] at ho0
  have S0 : Hid (PxS W M w W1 B ca len cap n (List.replicate M 0)) := ⟨ho0, by simp, (fun z hz => by rw [List.eq_of_mem_replicate hz]; omega), by rw [← hW1]; exact hc.alloc _ _, by rw [← hW1]; exact (Gr.refl B w).alloc _⟩
  have hM1 : M ≤ 1200 := by omega
  clear hc hd hC hW hW1 ho0 hM
  go_enter Tryz.func37, Tryz.ntmps37
  go_wp2_with fail
  rw [HW1.out, HW.out]
  refine (next_any W1 B ca len cap n hl (by omega) S0.out.cur (HD.out W1 S0.out.gr)).mono ?_
  rintro e w1 ⟨v, rfl, v0, v1, hc1, hb1⟩
  have S1 : Hid (PxS W M w w1 B ca len cap (n + 1) (List.replicate M 0)) := S0.out.sel hB hb1 hc1
  have x3 : IntKind.u8.wrap v = v := by rw [IntKind.wrap_u8]; omega
  clear hc1 hb1 S0
  go_wp2
  go_loopw [6, 16] (fun u i wr => ∃ (k : Nat) (x : Int) (zs : List Int), k ≤ M ∧ u = .int .u8 x ∧ i = .int .i64 (k : Int) ∧ 0 ≤ x ∧ x ≤ 255 ∧ PxS W M w wr B ca len cap (n + 1 + 6 * k) zs) (fun _ i _ => M - (intOf i).toNat)
  case atStart => exact ⟨0, v, _, Nat.zero_le _, rfl, rfl, v0, v1, S1.out⟩
  case round =>
    clear S1 x3 v0 v1
    obtain ⟨k, x, zs, hk, rfl, rfl, x0, x1, hs⟩ := hrel
    by_cases hlt : k < M
    · obtain ⟨⟨u, c0⟩, cf⟩ := hs.cell k hlt
      have S2 : Hid (PxS W M w (wr.setCell ⟨W, k, none⟩ (.int .u8 x)) B ca len cap (n + 1 + 6 * k) (zs.set k x)) := hs.store HW.out hB k x x0 x1
      clear hs
      go_wp2_with fail
      refine (one_any (wr.setCell ⟨W, k, none⟩ (.int .u8 x)) B ca len cap _ 3 hl (by omega) (by omega) (by omega) S2.out.cur (HD.out _ S2.out.gr)).mono ?_
      rintro e w3 ⟨o, rfl, hc3, hb3⟩
      have S3 : Hid (PxS W M w w3 B ca len cap (n + 1 + 6 * k + 2) (zs.set k x)) := S2.out.sel hB hb3 hc3
      clear hc3 hb3 S2 c0 cf
      cases o with
      | false =>
        by_cases hk3 : k % 4 = 3
        · have k4 : (k : Int) % 4 = 3 := by omega
          have k5 : (k : Int).tmod 4 = 3 := by rw [Int.tmod_eq_emod_of_nonneg (by omega)]; exact k4
          go_wp2_with fail
          refine (one_any w3 B ca len cap _ 2 hl (by omega) (by omega) (by omega) S3.out.cur (HD.out _ S3.out.gr)).mono ?_
          rintro e w8 ⟨o2, rfl, hc8, hb8⟩
          have S8 : Hid (PxS W M w w8 B ca len cap (n + 1 + 6 * k + 6) (zs.set k x)) := (S3.out.sel hB hb8 hc8).more (by omega)
          clear hc8 hb8 S3
          cases o2 with
          | false =>
            go_wp2
            go_roundw
            case rel => exact ⟨k + 1, x, _, hlt, rfl, by go_num, x0, x1, S8.out.more (by omega)⟩
            case measure => simp [intOf]; omega
          | true =>
            obtain ⟨⟨u8, c8⟩, cf8⟩ := S8.out.cell k hlt
            have S9 : Hid (PxS W M w (w8.setCell ⟨W, k, none⟩ (.int .u8 255)) B ca len cap (n + 1 + 6 * k + 6) ((zs.set k x).set k 255)) := S8.out.store HW.out hB k 255 (by omega) (by omega)
            clear S8
            go_wp2
            go_roundw
            case rel => exact ⟨k + 1, x, _, hlt, rfl, by go_num, x0, x1, S9.out.more (by omega)⟩
            case measure => simp [intOf]; omega
        · have k4 : ¬ (k : Int) % 4 = 3 := by omega
          have k5 : ((k : Int) % 4 == 3) = false := by rw [beq_eq_false_iff_ne]; omega
          have S8 : Hid (PxS W M w w3 B ca len cap (n + 1 + 6 * k + 6) (zs.set k x)) := S3.out.more (by omega)
          clear S3
          go_wp2
          go_roundw
          case rel => exact ⟨k + 1, x, _, hlt, rfl, by go_num, x0, x1, S8.out.more (by omega)⟩
          case measure => simp [intOf]; omega
      | true =>
        go_wp2_with fail
        refine (pick_any w3 B ca len cap _ 9 hl (by omega) (by omega) (by omega) S3.out.cur (HD.out w3 S3.out.gr)).mono ?_
        rintro e w4 ⟨y, rfl, y0, y1, hc4, hb4⟩
        have S4 : Hid (PxS W M w w4 B ca len cap (n + 1 + 6 * k + 4) (zs.set k x)) := (S3.out.sel hB hb4 hc4).more (by omega)
        have y3 : IntKind.u8.wrap y = y := by rw [IntKind.wrap_u8]; omega
        have X0 : 0 ≤ IntKind.u8.wrap (x + y) ∧ IntKind.u8.wrap (x + y) ≤ 255 := by rw [IntKind.wrap_u8]; omega
        have X2 : IntKind.u8.wrap (x + y) = (x + y) % 256 := IntKind.wrap_u8 _
        obtain ⟨X, hX⟩ : ∃ X, IntKind.u8.wrap (x + y) = X := ⟨_, rfl⟩
        rw [hX] at X0 X2
        have HX2 : Hid _ := X2
        clear hc4 hb4 S3 X2
        by_cases hk3 : k % 4 = 3
        · have k4 : (k : Int) % 4 = 3 := by omega
          have k5 : (k : Int).tmod 4 = 3 := by rw [Int.tmod_eq_emod_of_nonneg (by omega)]; exact k4
          go_wp2_with fail
          refine (one_any w4 B ca len cap _ 2 hl (by omega) (by omega) (by omega) S4.out.cur (HD.out _ S4.out.gr)).mono ?_
          rintro e w8 ⟨o2, rfl, hc8, hb8⟩
          have S8 : Hid (PxS W M w w8 B ca len cap (n + 1 + 6 * k + 6) (zs.set k x)) := (S4.out.sel hB hb8 hc8).more (by omega)
          clear hc8 hb8 S4
          cases o2 with
          | false =>
            go_wp2
            go_roundw
            case rel => exact ⟨k + 1, X, _, hlt, rfl, by go_num, X0.1, X0.2, S8.out.more (by omega)⟩
            case measure => simp [intOf]; omega
          | true =>
            obtain ⟨⟨u8, c8⟩, cf8⟩ := S8.out.cell k hlt
            have S9 : Hid (PxS W M w (w8.setCell ⟨W, k, none⟩ (.int .u8 255)) B ca len cap (n + 1 + 6 * k + 6) ((zs.set k x).set k 255)) := S8.out.store HW.out hB k 255 (by omega) (by omega)
            clear S8
            go_wp2
            go_roundw
            case rel => exact ⟨k + 1, X, _, hlt, rfl, by go_num, X0.1, X0.2, S9.out.more (by omega)⟩
            case measure => simp [intOf]; omega
        · have k4 : ¬ (k : Int) % 4 = 3 := by omega
          have k5 : ((k : Int) % 4 == 3) = false := by rw [beq_eq_false_iff_ne]; omega
          have S8 : Hid (PxS W M w w4 B ca len cap (n + 1 + 6 * k + 6) (zs.set k x)) := S4.out.more (by omega)
          clear S4
          go_wp2
          go_roundw
          case rel => exact ⟨k + 1, X, _, hlt, rfl, by go_num, X0.1, X0.2, S8.out.more (by omega)⟩
          case measure => simp [intOf]; omega
    · have e : k = M := by omega
      subst e
      have HS : Hid _ := hs
      clear hs
      go_wp2
      go_ret
      exact ⟨zs, rfl, HS.out.lz, HS.out.own, HS.out.byt, HS.out.cur.mono (by omega), HS.out.gr⟩
end Go.Proofs.YtaeicgfebeliiaaGreatDoor
namespace Go.Proofs.YtaeicgfebeliiaaGreatDoor
open Go.ChangeShapes Go.WideShapes Go.ChangeAt Go.RowKit
set_option linter.unusedVariables false

/-- A list of numbers that is only read, in the block L. -/
def Nums (w : World) (L : Nat) (l : List Int) : Prop := ∀ i (h : i < l.length), w.cell? ⟨L, i, none⟩ = some (.int .i64 l[i])

set_option maxHeartbeats 1000000 in
theorem among_any (w : World) (B L ln : Nat) (l : List Int) (hln : l.length = ln) (ca : Option Addr) (len cap n : Nat) (hl : len ≤ 9223372036854775807) (hn : n ≤ 1000000000) (l1 : 2 ≤ ln) (l2 : ln ≤ 1000) (hLB : L ≠ B) (hN : Nums w L l) (hc : Cur w B ca len cap n) (hd : Code w B ca len) :
    Calls Tryz.prog 29 #[.pointer (some ⟨B, 0, none⟩), .slice (some ⟨L, 0, none⟩) ln ln] w fun e w' => ∃ v : Int, e = .returned (.int .i64 v) ∧ v ∈ l ∧ Cur w' B ca len cap (n + 2) ∧ Sel B w w' := by
  have HC : Hid _ := hc
  have HD : Hid _ := hd
  have HN : Hid _ := hN
  have HL : Hid _ := hln
  clear hc hd hN hln
  go_enter Tryz.func29, Tryz.ntmps29
  go_wp2_with fail
  refine (pick_any w B ca len cap n ln hl hn (by omega) (by omega) HC.out HD.out).mono ?_
  rintro e w1 ⟨i, rfl, i0, i1, hc1, hb1⟩
  obtain ⟨k, rfl⟩ := Int.eq_ofNat_of_zero_le i0
  have hkl : k < l.length := by rw [HL.out]; omega
  have HM : Hid (l[k] ∈ l) := List.getElem_mem _
  have hv := HN.out k hkl
  generalize l[k] = v at *
  have hv1 : w1.cell? ⟨L, k, none⟩ = some (.int .i64 v) := by rw [hb1.cell (p := ⟨L, k, none⟩) hLB]; exact hv
  have HC1 : Hid _ := hc1
  have HB1 : Hid _ := hb1
  clear hc1 hb1 hv hkl
  go_wp2
  go_ret
  exact ⟨v, rfl, HM.out, HC1.out, HB1.out⟩

end Go.Proofs.YtaeicgfebeliiaaGreatDoor
namespace Go.Proofs.YtaeicgfebeliiaaGreatDoor
open Go.ChangeShapes Go.WideShapes Go.ChangeAt Go.RowKit
set_option linter.unusedVariables false

theorem nums_allocP (l : List Int) (w : World) (t : TypeId) : Nums (w.alloc (.cells (l.map (Value.int .i64)).toArray t)) w.heap.size l := by
  intro i h
  rw [World.cell?_alloc_new]
  simp [h]
/-- One of a list of numbers that has just been laid. -/
theorem among_lit (w : World) (B : Nat) (l : List Int) (t : TypeId) (ca : Option Addr) (len cap n : Nat) (hl : len ≤ 9223372036854775807) (hn : n ≤ 1000000000) (l1 : 2 ≤ l.length) (l2 : l.length ≤ 1000) (hc : Cur w B ca len cap n) (hd : Code w B ca len) :
    Calls Tryz.prog 29 #[.pointer (some ⟨B, 0, none⟩), .slice (some ⟨w.heap.size, 0, none⟩) l.length l.length] (w.alloc (.cells (l.map (Value.int .i64)).toArray t)) fun e w' => ∃ v : Int, e = .returned (.int .i64 v) ∧ v ∈ l ∧ Cur w' B ca len cap (n + 2) ∧ Gr B w w' := by
  have hB := hc.lt
  refine (among_any _ B w.heap.size l.length l rfl ca len cap n hl hn l1 l2 (by omega) (nums_allocP l w t) (hc.alloc _ _) (Code.alloc hd (by omega) _)).mono ?_
  rintro e w' ⟨v, rfl, hv, hc1, hs⟩
  exact ⟨v, rfl, hv, hc1, Gr.trans ((Gr.refl B w).alloc _) (Gr.of_sel hs)⟩
set_option maxRecDepth 100000 in
set_option maxHeartbeats 8000000 in
theorem picture_any (w : World) (B : Nat) (ca : Option Addr) (len cap n : Nat) (hl : len ≤ 9223372036854775807) (hn : n ≤ 10000) (hc : Cur w B ca len cap n) (hd : Code w B ca len) :
    Calls Tryz.prog 12 #[.pointer (some ⟨B, 0, none⟩)] w fun e w' => ∃ (a b : Nat) (v : Value) (zs : List Int), e = .returned (.tuple #[.int .i64 (a : Int), .int .i64 (b : Int), v]) ∧ Own w' w.heap.size v zs ∧ zs.length ≤ 1000 ∧ Byts zs ∧ Gr B w w' := by
  have hB := hc.lt
  have HC : Hid (Cur w B ca len cap n) := hc
  have HD : Hid (∀ w1, Gr B w w1 → Code w1 B ca len) := fun w1 g => Code.below hd (g.below (by omega))
  clear hc hd
  obtain ⟨W, hW⟩ : ∃ W, w.heap.size = W := ⟨_, rfl⟩
  have HW : Hid (w.heap.size = W) := hW
  rw [hW] at hB ⊢
  clear hW
  go_enter Tryz.func12, Tryz.ntmps12
  go_wp2_with fail
  refine (pick_any w B ca len cap n 6 hl (by omega) (by omega) (by omega) HC.out (HD.out w (Gr.refl _ _))).mono ?_
  rintro e w1 ⟨x, rfl, x0, x1, hc1, hb1⟩
  obtain ⟨A, rfl⟩ := Int.eq_ofNat_of_zero_le x0
  have C1 : Hid (Cur w1 B ca len cap (n + 2)) := hc1
  have G1 : Hid (Gr B w w1) := Gr.of_sel hb1
  clear hc1 hb1 HC
  go_wp2_with fail
  refine (pick_any w1 B ca len cap _ 6 hl (by omega) (by omega) (by omega) C1.out (HD.out w1 G1.out)).mono ?_
  rintro e w2 ⟨y, rfl, y0, y1, hc1, hb1⟩
  obtain ⟨Y, rfl⟩ := Int.eq_ofNat_of_zero_le y0
  have C2 : Hid (Cur w2 B ca len cap (n + 4)) := hc1
  have G2 : Hid (Gr B w w2) := G1.out.trans (Gr.of_sel hb1)
  clear hc1 hb1 C1 G1
  go_wp2_with fail
  refine (one_any w2 B ca len cap _ 30 hl (by omega) (by omega) (by omega) C2.out (HD.out w2 G2.out)).mono ?_
  rintro e w3 ⟨o, rfl, hc1, hb1⟩
  have C3 : Hid (Cur w3 B ca len cap (n + 6)) := hc1
  have G3 : Hid (Gr B w w3) := G2.out.trans (Gr.of_sel hb1)
  clear hc1 hb1 C2 G2
  have hb : (1 : Int) + (Y : Int) = ((1 + Y : Nat) : Int) := by omega
  obtain ⟨b, hbe⟩ : ∃ b, 1 + Y = b := ⟨_, rfl⟩
  rw [hbe] at hb
  have hb6 : b ≤ 6 := by omega
  clear hbe
  cases o with
  | false =>
    have ha : (1 : Int) + (A : Int) = ((1 + A : Nat) : Int) := by omega
    obtain ⟨a, hae⟩ : ∃ a, 1 + A = a := ⟨_, rfl⟩
    rw [hae] at ha
    have ha37 : a ≤ 37 := by omega
    clear hae
    have hm0 : (a : Int) * (b : Int) = ((a * b : Nat) : Int) := by simp
    have hm1 : a * b ≤ 37 * 6 := Nat.mul_le_mul ha37 hb6
    obtain ⟨m, hme⟩ : ∃ m, a * b = m := ⟨_, rfl⟩
    rw [hme] at hm0 hm1
    have hmw : IntKind.i64.wrap ((a : Int) * (b : Int)) = (m : Int) := by rw [hm0, IntKind.wrap_i64]; omega
    clear hme
    go_wp2_with fail
    refine (pixelsOf_any w3 B ca len cap _ m hl (by omega) (by omega) C3.out (HD.out w3 G3.out)).mono ?_
    rintro e w4 ⟨zs, rfl, hzl, o4, b4, c4, g4⟩
    have hsz3 : W ≤ w3.heap.size := by have := G3.out.size; rw [HW.out] at this; exact this
    obtain ⟨g, hg⟩ : ∃ g, w3.heap.size = g := ⟨_, rfl⟩
    rw [hg] at o4 ⊢
    obtain ⟨M, hM⟩ : ∃ M, 4 * m = M := ⟨_, rfl⟩
    rw [hM] at o4 hzl ⊢
    have O4 : Hid (Own w4 W (.slice (some ⟨g, 0, none⟩) M M) zs) := Own.base o4 (by omega)
    have G4 : Hid (Gr B w w4) := G3.out.trans g4
    have C4 : Hid (Cur w4 B ca len cap (n + 6 + 2 + 10000)) := c4.mono (by omega)
    have Y4 : Hid (Byts zs) := b4
    have hzl2 : zs.length ≤ 999 := by omega
    clear o4 b4 c4 g4 hg C3 G3 hmw hm0
    go_wp2_with fail
    refine (one_any w4 B ca len cap _ 30 hl (by omega) (by omega) (by omega) C4.out (HD.out w4 G4.out)).mono ?_
    rintro e w5 ⟨o2, rfl, hc5, hb5⟩
    have G5 : Hid (Gr B w w5) := G4.out.trans (Gr.of_sel hb5)
    have O5 : Hid (Own w5 W (.slice (some ⟨g, 0, none⟩) M M) zs) := O4.out.gra (Gr.of_sel hb5) hB
    have hsz5 : W ≤ w5.heap.size := by have := G5.out.size; rw [HW.out] at this; exact this
    clear hc5 hb5 O4 G4 C4
    cases o2 with
    | false =>
      go_wp2
      go_returns
      exact ⟨a, b, _, zs, rfl, O5.out, by omega, Y4.out, G5.out⟩
    | true =>
      have HN : ∀ o, Hid (Nw w5 (w5.alloc o)) := fun o => (Below.refl _ _).alloc (Nat.le_refl _) o
      have hol : zs.length ≤ 1000000 := by omega
      go_wp2_with (at_builtin; (refine wp_b _ rfl _ _ rfl W _ zs 1 rfl (Own.nw O5.out (HN _).out) _ rfl ?c1 hol ?c3 ?_))
      case c1 => simp
      case c3 => exact Nat.le_trans hsz5 (Below.size (HN _).out)
      intro v' w' h1 h2
      have G6 : Hid (Gr B w w') := (G5.out.alloc _).exta h2 (fun x e => by rw [HW.out]; exact (Own.lt O5.out x e).1)
      have O6 : Hid (Own w' W v' (zs ++ [1])) := h1
      obtain ⟨sa', sc', ev⟩ := Own.shape h1
      subst ev
      clear h1 h2
      go_wp2
      go_returns
      exact ⟨a, b, _, zs ++ [1], rfl, O6.out, by rw [List.length_append]; simp; omega, Y4.out.app (Byts.one (by omega) (by omega)), G6.out⟩
  | true =>
    go_wp2_with fail
    refine (among_lit w3 B [0, 36, 37] 3 ca len cap _ hl (by omega) (by decide) (by decide) C3.out (HD.out w3 G3.out)).mono ?_
    rintro e w3 ⟨z, rfl, hz, hc1, hb1⟩
    have C3 : Hid (Cur w3 B ca len cap (n + 6 + 2)) := hc1
    have G3 : Hid (Gr B w w3) := G3.out.trans hb1
    obtain ⟨a, rfl, ha37⟩ : ∃ a : Nat, z = (a : Int) ∧ a ≤ 37 := by
      simp at hz
      rcases hz with rfl | rfl | rfl
      · exact ⟨0, rfl, by omega⟩
      · exact ⟨36, rfl, by omega⟩
      · exact ⟨37, rfl, by omega⟩
    clear hc1 hb1 hz
    have hm0 : (a : Int) * (b : Int) = ((a * b : Nat) : Int) := by simp
    have hm1 : a * b ≤ 37 * 6 := Nat.mul_le_mul ha37 hb6
    obtain ⟨m, hme⟩ : ∃ m, a * b = m := ⟨_, rfl⟩
    rw [hme] at hm0 hm1
    have hmw : IntKind.i64.wrap ((a : Int) * (b : Int)) = (m : Int) := by rw [hm0, IntKind.wrap_i64]; omega
    clear hme
    go_wp2_with fail
    refine (pixelsOf_any w3 B ca len cap _ m hl (by omega) (by omega) C3.out (HD.out w3 G3.out)).mono ?_
    rintro e w4 ⟨zs, rfl, hzl, o4, b4, c4, g4⟩
    have hsz3 : W ≤ w3.heap.size := by have := G3.out.size; rw [HW.out] at this; exact this
    obtain ⟨g, hg⟩ : ∃ g, w3.heap.size = g := ⟨_, rfl⟩
    rw [hg] at o4 ⊢
    obtain ⟨M, hM⟩ : ∃ M, 4 * m = M := ⟨_, rfl⟩
    rw [hM] at o4 hzl ⊢
    have O4 : Hid (Own w4 W (.slice (some ⟨g, 0, none⟩) M M) zs) := Own.base o4 (by omega)
    have G4 : Hid (Gr B w w4) := G3.out.trans g4
    have C4 : Hid (Cur w4 B ca len cap (n + 6 + 2 + 10000)) := c4.mono (by omega)
    have Y4 : Hid (Byts zs) := b4
    have hzl2 : zs.length ≤ 999 := by omega
    clear o4 b4 c4 g4 hg C3 G3 hmw hm0
    go_wp2_with fail
    refine (one_any w4 B ca len cap _ 30 hl (by omega) (by omega) (by omega) C4.out (HD.out w4 G4.out)).mono ?_
    rintro e w5 ⟨o2, rfl, hc5, hb5⟩
    have G5 : Hid (Gr B w w5) := G4.out.trans (Gr.of_sel hb5)
    have O5 : Hid (Own w5 W (.slice (some ⟨g, 0, none⟩) M M) zs) := O4.out.gra (Gr.of_sel hb5) hB
    have hsz5 : W ≤ w5.heap.size := by have := G5.out.size; rw [HW.out] at this; exact this
    clear hc5 hb5 O4 G4 C4
    cases o2 with
    | false =>
      go_wp2
      go_returns
      exact ⟨a, b, _, zs, rfl, O5.out, by omega, Y4.out, G5.out⟩
    | true =>
      have HN : ∀ o, Hid (Nw w5 (w5.alloc o)) := fun o => (Below.refl _ _).alloc (Nat.le_refl _) o
      have hol : zs.length ≤ 1000000 := by omega
      go_wp2_with (at_builtin; (refine wp_b _ rfl _ _ rfl W _ zs 1 rfl (Own.nw O5.out (HN _).out) _ rfl ?c1 hol ?c3 ?_))
      case c1 => simp
      case c3 => exact Nat.le_trans hsz5 (Below.size (HN _).out)
      intro v' w' h1 h2
      have G6 : Hid (Gr B w w') := (G5.out.alloc _).exta h2 (fun x e => by rw [HW.out]; exact (Own.lt O5.out x e).1)
      have O6 : Hid (Own w' W v' (zs ++ [1])) := h1
      obtain ⟨sa', sc', ev⟩ := Own.shape h1
      subst ev
      clear h1 h2
      go_wp2
      go_returns
      exact ⟨a, b, _, zs ++ [1], rfl, O6.out, by rw [List.length_append]; simp; omega, Y4.out.app (Byts.one (by omega) (by omega)), G6.out⟩
end Go.Proofs.YtaeicgfebeliiaaGreatDoor
