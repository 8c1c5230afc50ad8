/-
  A text turned into bytes, to which data are appended; each theorem names its conditions.
-/
import Derived.Test.YteehoihkbcbbgaaDoorEnc
import Derived.Lib.ConvBytes
namespace Go.Proofs.YteehoihkbcbbgaaDoor
open Go.ChangeShapes Go.WideShapes Go.ChangeAt Go.RowKit
set_option linter.unusedVariables false

theorem vals_get (zs : List Int) (i : Nat) (h : i < zs.length) : (vals zs)[i]? = some (.int .u8 (zs.getD i 0)) := by simp [vals, h]
theorem below_setCells (B b : Nat) (hb : B ≤ b) : ∀ (vs : List Value) (o : Nat) (w : World), Below B w (w.setCells b o vs)
  | [], _, _ => Below.refl _ _
  | v :: r, o, w => ((Below.refl B w).setCell (show B ≤ (Addr.mk b o none).block from hb) v).trans (below_setCells B b hb r (o + 1) (w.setCell ⟨b, o, none⟩ v))
theorem bytes_nw (w : World) (s : ByteArray) : Nw w (Lib.bytesWorld w 5 s) :=
  ⟨rfl, rfl, rfl, by rw [Lib.bytesWorld_size]; omega, fun k hk => Lib.bytesWorld_at_old w _ s k hk⟩
theorem bytes_lie (w : World) (s : ByteArray) : Lie (Lib.bytesWorld w 5 s) w.heap.size 0 (strInts s) := by
  refine ⟨by rw [Lib.bytesWorld_size]; omega, fun i hi => ?_⟩
  rw [strInts_len] at hi
  rw [Nat.zero_add, Lib.bytesWorld_cell w _ s i hi]
  simp [strInts, hi]
theorem bytes_cells (w : World) (s : ByteArray) (j : Nat) (hj : j < grownCap w s.size 0 5) : ((Lib.bytesWorld w 5 s).cell? ⟨w.heap.size, j, none⟩).isSome = true ∧ (Lib.bytesWorld w 5 s).frozen? ⟨w.heap.size, j, none⟩ = false := by
  have hge := grownCap_ge w s.size 0 5
  have hsz : (Lib.bytesCells w 5 s).size = grownCap w s.size 0 5 := by simp [Lib.bytesCells]; omega
  have h := Lib.bytesWorld_at_new w 5 s
  have e : (Lib.bytesCells w 5 s)[j]? = some ((Lib.bytesCells w 5 s)[j]'(by omega)) := by simp
  constructor
  · simp [World.cell?, h, e]
  · simp [World.frozen?, h]; omega
/-- Data that may be appended: none, or bytes in a block. -/
def Src0 (w : World) (ad : Option Addr) (ds : List Int) : Prop := (ad = none ∧ ds = []) ∨ ∃ b off, ad = some ⟨b, off, none⟩ ∧ Lie w b off ds
theorem Data.src0 {w : World} {v : Value} {ad : Option Addr} {ds : List Int} (h : Data w v ad ds) : Src0 w ad ds := by
  rcases h with h | ⟨b, off, h1, h2, h3⟩
  · exact Or.inl h
  · exact Or.inr ⟨b, off, h1, h2⟩
theorem src_of {w : World} {ad : Option Addr} {ds : List Int} (c : Nat) (h : Src0 w ad ds) : Src Tryd.prog 1 22 (.slice ad ds.length c) ds.length (vals ds) w := by
  rcases h with ⟨rfl, rfl⟩ | ⟨b, off, rfl, h2⟩
  · exact Src.ofNil w Tryd.underlying22 c
  · exact Src.ofSlice w Tryd.underlying22 ⟨b, off, none⟩ ds.length c (vals ds) (by rw [vals_len]; omega) (lie_add h2) (vals_one ds)
theorem run_conv (w : World) (s : ByteArray) (ty : TypeId) (ad : Option Addr) (c : Nat) (ds : List Int) (h : Src0 w ad ds) (hs : s.size ≤ 1000) (hl : ds.length ≤ 1000000) :
    ∃ g c' w', (Builtin.append_ #[22, 22] ty #[.slice (some ⟨w.heap.size, 0, none⟩) s.size (grownCap w s.size 0 5), .slice ad ds.length c]).run Tryd.prog (Lib.bytesWorld w 5 s) = .ok (.slice (some ⟨g, 0, none⟩) (s.size + ds.length) c') w' ∧ w.heap.size ≤ g ∧ Nw w w' ∧ Lie w' g 0 (strInts s ++ ds) := by
  obtain ⟨i0, hi, hz0, hz1, hz2⟩ := info_parts Tryd.info5
  have hnw := bytes_nw w s
  have hsrc : Src0 (Lib.bytesWorld w 5 s) ad ds := by
    rcases h with h | ⟨b, off, h1, h2⟩
    · exact Or.inl h
    · exact Or.inr ⟨b, off, h1, Lie.below h2 hnw h2.1⟩
  have hS := src_of c hsrc
  have hlie := bytes_lie w s
  have hsl := strInts_len s
  have hss : (Lib.bytesWorld w 5 s).heap.size = w.heap.size + 1 := Lib.bytesWorld_size w _ s
  by_cases hroom : s.size + ds.length ≤ grownCap w s.size 0 5
  · have hr := run_append_room_src (P := Tryd.prog) (Lib.bytesWorld w 5 s) 22 22 ty 5 i0 Tryd.underlying22 hi w.heap.size 0 s.size (grownCap w s.size 0 5) (.slice ad ds.length c) ds.length (vals ds) (by rw [hz1]; exact hS) hroom
      (fun j hj => by rw [vals_len] at hj; rw [hz1, Nat.zero_add, Nat.mul_one]; exact (bytes_cells w s _ (by omega)).1) (fun j hj => by rw [vals_len] at hj; rw [hz1, Nat.zero_add, Nat.mul_one]; exact (bytes_cells w s _ (by omega)).2)
    refine ⟨_, _, _, hr, Nat.le_refl _, ?_, ?_⟩
    · exact Below.trans hnw (below_setCells _ _ (Nat.le_refl _) _ _ _)
    · rw [hz1, Nat.zero_add, Nat.mul_one]
      have hbel := below_setCells w.heap.size w.heap.size (Nat.le_refl _) (vals ds) s.size (Lib.bytesWorld w 5 s)
      refine ⟨Nat.lt_of_lt_of_le (by omega) hbel.size, fun i hi2 => ?_⟩
      rw [List.length_append, hsl] at hi2
      by_cases h1 : i < s.size
      · rw [World.cell?_setCells_out w.heap.size (vals ds) s.size _ ⟨w.heap.size, 0 + i, none⟩ (fun _ _ => Or.inl (by show 0 + i < s.size; omega)), hlie.2 i (by omega)]
        simp only [List.getD_eq_getElem?_getD]
        rw [List.getElem?_append_left (by omega)]
      · obtain ⟨j, rfl⟩ : ∃ j, i = s.size + j := ⟨i - s.size, by omega⟩
        have := World.cell?_setCells_in w.heap.size (vals ds) s.size (Lib.bytesWorld w 5 s) (fun j hj => by rw [vals_len] at hj; exact (bytes_cells w s _ (by omega)).1) j (by rw [vals_len]; omega)
        rw [Nat.zero_add, this]
        simp only [List.getD_eq_getElem?_getD]
        rw [List.getElem?_append_right (by omega)]
        simp [vals, hsl, show j < ds.length by omega]
  · have hold : (Builtin.firstCells i0.size s.size (.slice (some ⟨w.heap.size, 0, none⟩) s.size (grownCap w s.size 0 5))).run Tryd.prog (Lib.bytesWorld w 5 s).drew = .ok (vals (strInts s)).toArray (Lib.bytesWorld w 5 s).drew := by
      rw [hz1]
      exact run_firstCells_some _ 1 s.size ⟨w.heap.size, 0, none⟩ s.size _ (vals (strInts s)) (by rw [vals_len, hsl]; omega) (fun j u hu => by simpa using lie_add hlie j u hu)
    have hr := run_append_grow_src (P := Tryd.prog) (Lib.bytesWorld w 5 s) 22 22 ty 5 i0 (.int .u8 0) Tryd.underlying22 hi hz0 _ s.size (grownCap w s.size 0 5) (vals (strInts s)) hold (.slice ad ds.length c) ds.length (vals ds) (by rw [hz1]; exact hS) (by omega) (by omega) (by rw [hz2]; exact growslice_fits (by omega) (by omega))
    refine ⟨_, _, _, hr, by omega, ?_, ?_⟩
    · exact Below.trans hnw ((Below.refl _ _).drew.alloc (by show _ ≤ (Lib.bytesWorld w 5 s).heap.size; omega) _)
    · refine ⟨by simp, fun i hi2 => ?_⟩
      have e1 := World.cell?_alloc_new (Lib.bytesWorld w 5 s).drew ((vals (strInts s) ++ vals ds).toArray ++ Builtin.zeroCells (Value.int .u8 0).cells (grownCap (Lib.bytesWorld w 5 s) (s.size + ds.length) (grownCap w s.size 0 5) 5 - (s.size + ds.length))) 5 (0 + i)
      refine Eq.trans e1 ?_
      rw [List.length_append, hsl] at hi2
      rw [Array.getElem?_append_left (by simp [vals_len, hsl]; omega), List.getElem?_toArray, ← vals_append, Nat.zero_add, vals_get _ _ (by rw [List.length_append, hsl]; exact hi2)]
/-- Data are appended to a text that was turned into bytes. -/
theorem wp_conv (w : World) {ops : Array Oper} {rest : List Oper} {o : Oper} {a : Act} {Q : Exit → Act → World → Prop} (hgd : o.guard = none) (sl x : Operand)
    (ho : o.op = .call { callee := .builtin .append, args := #[sl, x], argTypes := #[22, 22] })
    (s : ByteArray) (hs : a.eval sl = .slice (some ⟨w.heap.size, 0, none⟩) s.size (grownCap w s.size 0 5)) (ad : Option Addr) (c : Nat) (ds : List Int) (hx : a.eval x = .slice ad ds.length c) (hd : Src0 w ad ds) (hs1 : s.size ≤ 1000) (hl : ds.length ≤ 1000000)
    (h : ∀ g c' w', w.heap.size ≤ g → Nw w w' → Lie w' g 0 (strInts s ++ ds) → wpList Tryd.prog ops Q rest (a.put o.dst (.slice (some ⟨g, 0, none⟩) (s.size + ds.length) c')) w') : wpList Tryd.prog ops Q (o :: rest) a (Lib.bytesWorld w 5 s) := by
  refine wpList_plain hgd fun K hK => ?_
  obtain ⟨g, c', w', hr, h1, h2, h3⟩ := run_conv w s o.type ad c ds hd hs1 hl
  unfold Oper.wp execOp
  simp only [ho, resolve, invoke, builtin, Sem.run_bind, Sem.run_pure, Result.andThen_ok, List.map_toArray, List.map_cons, List.map_nil, hs, hx, hr]
  exact hK _ _ (h g c' w' h1 h2 h3)
end Go.Proofs.YteehoihkbcbbgaaDoor
