/-
  A row of numbers of the call's own that is taken from ahead and appended to behind; each theorem names its conditions.
-/
import Derived.Test.YthnmebmjmjfflaaDoorIns
import Derived.Deep.AppendSrc
namespace Go.Proofs.YthnmebmjmjfflaaDoor
open Go.ChangeShapes Go.WideShapes Go.ChangeAt Go.RowKit
set_option linter.unusedVariables false

/-- The numbers T lie from the cell o of the block g on, with room for c. -/
structure Que (w : World) (B g o c : Nat) (T : List Int) : Prop where
  own : B ≤ g
  lt : g < w.heap.size
  cap : T.length ≤ c
  cells : ∀ i, i < T.length → w.cell? ⟨g, o + i, none⟩ = some (.int .i64 (intAt T i))
  room : ∀ j, j < c → (w.cell? ⟨g, o + j, none⟩).isSome = true ∧ w.frozen? ⟨g, o + j, none⟩ = false
theorem Que.nw {w w' : World} {B g o c : Nat} {T : List Int} (h : Que w B g o c T) (k : Nw w w') : Que w' B g o c T :=
  ⟨h.own, Nat.lt_of_lt_of_le h.lt (Below.size k), h.cap, fun i hi => ((bcell k).1 _ _ h.lt).trans (h.cells i hi), fun j hj => by rw [(bcell k).1 _ _ h.lt, (bcell k).2 _ _ h.lt]; exact h.room j hj⟩
/-- What is left of it behind the first one. -/
theorem Que.tail {w : World} {B g o c : Nat} {x : Int} {T : List Int} (h : Que w B g o c (x :: T)) : Que w B g (o + 1) (c - 1) T := by
  have hc := h.cap
  simp only [List.length_cons] at hc
  refine ⟨h.own, h.lt, by omega, fun i hi => ?_, fun j hj => ?_⟩
  · have := h.cells (i + 1) (by simp; omega)
    rw [show o + 1 + i = o + (i + 1) by omega, this]
    simp [intAt]
  · rw [show o + 1 + j = o + (j + 1) by omega]
    exact h.room (j + 1) (by omega)
/-- Where nothing is left, and no room: any place. -/
theorem Que.bare {w : World} {B g o o' c : Nat} {T : List Int} (h : Que w B g o c T) (h0 : T = []) : Que w B g o' 0 [] :=
  ⟨h.own, h.lt, Nat.le_refl _, fun i hi => by simp at hi, fun j hj => by omega⟩
theorem Que.head {w : World} {B g o c : Nat} {x : Int} {T : List Int} (h : Que w B g o c (x :: T)) : w.cell? ⟨g, o, none⟩ = some (.int .i64 x) := by
  have := h.cells 0 (by simp)
  simpa [intAt] using this
theorem Ins.que {w : World} {B : Nat} {v : Value} {T : List Int} (h : Ins w B v T) : (v = .slice none 0 0 ∧ T = []) ∨ ∃ g c, v = .slice (some ⟨g, 0, none⟩) T.length c ∧ Que w B g 0 c T := by
  rcases h.2 with ⟨hn, h0⟩ | ⟨g, cap, cur, h1, h2, h3, h4, h5, h6, h7⟩
  · exact Or.inl ⟨hn, List.eq_nil_of_length_eq_zero h0⟩
  · refine Or.inr ⟨g, cap, h1, h2, ?_, h4, fun i hi => ?_, fun j hj => ?_⟩
    · subst h1; exact (World.ownsRow.lt h g rfl).2
    · subst h1
      have := World.ownsRow.cellAt h i (by omega)
      rw [Nat.zero_add, this]
      simp [intAt, hi]
    · subst h1
      constructor
      · have e : j < cur.size := by omega
        rw [Nat.zero_add]
        simp [World.cell?, h3, e]
      · exact World.ownsRow.frozenAt h _
def ivals (T : List Int) : List Value := T.map (Value.int .i64)
theorem ivals_len (T : List Int) : (ivals T).length = T.length := by simp [ivals]
theorem ivals_get {T : List Int} {j : Nat} {u : Value} (h : (ivals T)[j]? = some u) : j < T.length ∧ u = .int .i64 (intAt T j) := by
  have hj : j < T.length := by
    rcases Nat.lt_or_ge j T.length with c | c
    · exact c
    · rw [List.getElem?_eq_none (by rw [ivals_len]; exact c)] at h; cases h
  refine ⟨hj, ?_⟩
  simp [ivals, hj] at h
  rw [← h]; simp [intAt, hj]
theorem ivals_one (T : List Int) : ∀ u ∈ ivals T, u.oneCell' = true := by
  intro u hu
  obtain ⟨_, _, rfl⟩ := List.mem_map.1 hu
  rfl
theorem Que.get {w : World} {B g o c : Nat} {T : List Int} (h : Que w B g o c T) : ∀ j u, (ivals T)[j]? = some u → w.cell? ((⟨g, o, none⟩ : Addr).add j) = some u := by
  intro j u hu
  obtain ⟨hj, rfl⟩ := ivals_get hu
  rw [add_at]
  exact h.cells j hj
theorem below_cells (B b : Nat) (hb : B ≤ b) : ∀ (vs : List Value) (o : Nat) (w : World), Below B w (w.setCells b o vs)
  | [], _, _ => Below.refl _ _
  | v :: r, o, w => ((Below.refl B w).setCell (show B ≤ (Addr.mk b o none).block from hb) v).trans (below_cells B b hb r (o + 1) (w.setCell ⟨b, o, none⟩ v))
/-- Other blocks stay. -/
theorem cells_far (b : Nat) : ∀ (vs : List Value) (o : Nat) (w : World) (k : Nat), k ≠ b → (w.setCells b o vs).heap[k]? = w.heap[k]?
  | [], _, _, _, _ => rfl
  | v :: r, o, w, k, h => (cells_far b r (o + 1) (w.setCell ⟨b, o, none⟩ v) k h).trans (Below.heap_setCell _ _ _ _ (by simpa using h))
theorem intAt_app (S T : List Int) (i : Nat) : intAt (S ++ T) i = if i < S.length then intAt S i else intAt T (i - S.length) := by
  unfold intAt
  simp only [List.getD_eq_getElem?_getD]
  split
  · rw [List.getElem?_append_left (by assumption)]
  · rw [List.getElem?_append_right (by omega)]
/-- A row is appended. Nothing but the row's own block is written. -/
theorem run_que (w : World) (B g o c : Nat) (T S : List Int) (xa : Option Addr) (xc : Nat) (ty : TypeId) (hq : Que w B g o c T) (hx : (xa = none ∧ S = []) ∨ ∃ b off, xa = some ⟨b, off, none⟩ ∧ ∀ i, i < S.length → w.cell? ⟨b, off + i, none⟩ = some (.int .i64 (intAt S i)))
    (hl : T.length + S.length ≤ 1000000) :
    ∃ g' o' c' w', (Builtin.append_ #[24, 24] ty #[.slice (some ⟨g, o, none⟩) T.length c, .slice xa S.length xc]).run Tryd.prog w = .ok (.slice (some ⟨g', o', none⟩) (T.length + S.length) c') w' ∧ Que w' B g' o' c' (T ++ S) ∧ (B ≤ w.heap.size → Below B w w') := by
  obtain ⟨i0, hi, hz0, hz1, hz2⟩ := ins_parts
  have hS : Src Tryd.prog 1 24 (.slice xa S.length xc) S.length (ivals S) w := by
    rcases hx with ⟨rfl, rfl⟩ | ⟨b, off, rfl, h2⟩
    · exact Src.ofNil w Tryd.underlying24 xc
    · exact Src.ofSlice w Tryd.underlying24 ⟨b, off, none⟩ S.length xc (ivals S) (by rw [ivals_len]; omega) (fun j u hu => by
        obtain ⟨hj, rfl⟩ := ivals_get hu
        rw [add_at]; exact h2 j hj) (ivals_one S)
  by_cases hroom : T.length + S.length ≤ c
  · have hr := run_append_room_src (P := Tryd.prog) w 24 24 ty 3 i0 Tryd.underlying24 hi g o T.length c (.slice xa S.length xc) S.length (ivals S) (by rw [hz1]; exact hS) hroom
      (fun j hj => by rw [ivals_len] at hj; rw [hz1, Nat.mul_one, Nat.add_assoc]; exact (hq.room _ (by omega)).1) (fun j hj => by rw [ivals_len] at hj; rw [hz1, Nat.mul_one, Nat.add_assoc]; exact (hq.room _ (by omega)).2)
    rw [hz1, Nat.mul_one] at hr
    have hb := below_cells B g hq.own (ivals S) (o + T.length) w
    refine ⟨_, _, _, _, hr, ⟨hq.own, Nat.lt_of_lt_of_le hq.lt hb.size, by rw [List.length_append]; exact hroom, fun i hi2 => ?_, fun j hj => ?_⟩, fun _ => hb⟩
    · rw [List.length_append] at hi2
      rw [intAt_app]
      by_cases h1 : i < T.length
      · rw [World.cell?_setCells_out g (ivals S) (o + T.length) w ⟨g, o + i, none⟩ (fun _ _ => Or.inl (by show o + i < o + T.length; omega)), hq.cells i h1, if_pos h1]
      · obtain ⟨j, rfl⟩ : ∃ j, i = T.length + j := ⟨i - T.length, by omega⟩
        have := World.cell?_setCells_in g (ivals S) (o + T.length) w (fun j hj => by rw [ivals_len] at hj; rw [Nat.add_assoc]; exact (hq.room _ (by omega)).1) j (by rw [ivals_len]; omega)
        rw [← Nat.add_assoc, this, if_neg h1]
        simp [ivals, intAt, show j < S.length by omega]
    · refine ⟨?_, by rw [World.frozen?_setCells]; exact (hq.room j hj).2⟩
      by_cases h1 : T.length ≤ j ∧ j < T.length + S.length
      · obtain ⟨i, rfl⟩ : ∃ i, j = T.length + i := ⟨j - T.length, by omega⟩
        have := World.cell?_setCells_in g (ivals S) (o + T.length) w (fun j hj => by rw [ivals_len] at hj; rw [Nat.add_assoc]; exact (hq.room _ (by omega)).1) i (by rw [ivals_len]; omega)
        rw [← Nat.add_assoc, this]; rfl
      · rw [World.cell?_setCells_out g (ivals S) (o + T.length) w ⟨g, o + j, none⟩ (fun _ _ => by rw [ivals_len]; show o + j < o + T.length ∨ o + T.length + S.length ≤ o + j; omega)]
        exact (hq.room j hj).1
  · have hold : (Builtin.firstCells i0.size T.length (.slice (some ⟨g, o, none⟩) T.length c)).run Tryd.prog w.drew = .ok (ivals T).toArray w.drew := by
      rw [hz1]
      exact run_firstCells_some _ 1 T.length ⟨g, o, none⟩ T.length c (ivals T) (by rw [ivals_len]; omega) (fun j u hu => by simpa using hq.get j u hu)
    have hr := run_append_grow_src (P := Tryd.prog) w 24 24 ty 3 i0 (.int .i64 0) Tryd.underlying24 hi hz0 _ T.length c (ivals T) hold (.slice xa S.length xc) S.length (ivals S) (by rw [hz1]; exact hS) (by omega) (by omega) (by rw [hz2]; exact growslice_fits (by omega) (by omega))
    have hge := grownCap_ge w (T.length + S.length) c 3
    have hcell : ∀ (j : Nat), j < grownCap w (T.length + S.length) c 3 → ∃ u, (((ivals T ++ ivals S).toArray ++ Builtin.zeroCells (Value.int .i64 0).cells (grownCap w (T.length + S.length) c 3 - (T.length + S.length)))[j]? = some u) := by
      intro j hj
      have hsz : ((ivals T ++ ivals S).toArray ++ Builtin.zeroCells (Value.int .i64 0).cells (grownCap w (T.length + S.length) c 3 - (T.length + S.length))).size = grownCap w (T.length + S.length) c 3 := by
        have h1 : (Value.int .i64 0).cells.size = 1 := rfl
        simp [ivals_len, Builtin.zeroCells, h1]
        omega
      exact ⟨_, Array.getElem?_eq_getElem (by rw [hsz]; exact hj)⟩
    refine ⟨_, _, _, _, hr, ⟨?_, by simp, by rw [List.length_append]; exact hge, fun i hi2 => ?_, fun j hj => ?_⟩, fun hB => (Below.refl _ _).drew.alloc (by simpa using hB) _⟩
    · exact Nat.le_trans hq.own (Nat.le_of_lt hq.lt)
    · have e1 := World.cell?_alloc_new w.drew ((ivals T ++ ivals S).toArray ++ Builtin.zeroCells (Value.int .i64 0).cells (grownCap w (T.length + S.length) c 3 - (T.length + S.length))) 3 (0 + i)
      refine Eq.trans e1 ?_
      rw [List.length_append] at hi2
      rw [Array.getElem?_append_left (by simp [ivals_len]; omega), List.getElem?_toArray, Nat.zero_add, intAt_app]
      by_cases h1 : i < T.length
      · rw [List.getElem?_append_left (by rw [ivals_len]; exact h1), if_pos h1]
        simp [ivals, intAt, h1]
      · rw [List.getElem?_append_right (by rw [ivals_len]; omega), if_neg h1, ivals_len]
        simp [ivals, intAt, show i - T.length < S.length by omega]
    · constructor
      · have e1 := World.cell?_alloc_new w.drew ((ivals T ++ ivals S).toArray ++ Builtin.zeroCells (Value.int .i64 0).cells (grownCap w (T.length + S.length) c 3 - (T.length + S.length))) 3 (0 + j)
        obtain ⟨u, hu⟩ := hcell j hj
        rw [Nat.zero_add] at e1
        rw [hu] at e1
        have e2 : (w.drew.alloc (.cells ((ivals T ++ ivals S).toArray ++ Builtin.zeroCells (Value.int .i64 0).cells (grownCap w (T.length + S.length) c 3 - (T.length + S.length))) 3)).cell? ⟨w.heap.size, 0 + j, none⟩ = some u := by rw [Nat.zero_add]; exact e1
        rw [e2]; rfl
      · exact World.frozen?_alloc_at _ _ _ _ rfl
/-- A row is appended to a queue. -/
theorem wp_que (w : World) {ops : Array Oper} {rest : List Oper} {op : Oper} {a : Act} {Q : Exit → Act → World → Prop} (hgd : op.guard = none) (s x : Operand)
    (ho : op.op = .call { callee := .builtin .append, args := #[s, x], argTypes := #[24, 24] })
    (B g o c : Nat) (T S : List Int) (hs : a.eval s = .slice (some ⟨g, o, none⟩) T.length c) (xa : Option Addr) (xc : Nat) (hx : a.eval x = .slice xa S.length xc) (hq : Que w B g o c T)
    (hd : (xa = none ∧ S = []) ∨ ∃ b off, xa = some ⟨b, off, none⟩ ∧ ∀ i, i < S.length → w.cell? ⟨b, off + i, none⟩ = some (.int .i64 (intAt S i))) (hl : T.length + S.length ≤ 1000000) (hB : B ≤ w.heap.size)
    (h : ∀ g' o' c' w', Que w' B g' o' c' (T ++ S) → Below B w w' → wpList Tryd.prog ops Q rest (a.put op.dst (.slice (some ⟨g', o', none⟩) (T.length + S.length) c')) w') : wpList Tryd.prog ops Q (op :: rest) a w := by
  refine wpList_plain hgd fun K hK => ?_
  obtain ⟨g', o', c', w', hr, h1, h2⟩ := run_que w B g o c T S xa xc op.type hq hd hl
  unfold Oper.wp execOp
  simp only [ho, resolve, invoke, builtin, Sem.run_bind, Sem.run_pure, Result.andThen_ok, List.map_toArray, List.map_cons, List.map_nil, hs, hx, hr]
  exact hK _ _ (h g' o' c' w' h1 (h2 hB))
end Go.Proofs.YthnmebmjmjfflaaDoor
