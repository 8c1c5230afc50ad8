/-
  A picture that was encoded is read by the program; each theorem names its conditions.
  A text turned into bytes, to which data are appended; each theorem names its conditions.
  What the specification's helpers of EncodePng do: numbers, chunks, marks; each theorem names its conditions.
  What the program's EncodePng answers; each theorem names its conditions.
-/
import Derived.Test.YtaeicgfebeliiaaGreatDoorJAU
import Derived.Test.YtaeicgfebeliiaaGreatDoorJAL
import Derived.Lib.ConvBytes
import Derived.Test.YtaeicgfebeliiaaGreatDoorJAP
namespace Go.Proofs.YtaeicgfebeliiaaGreatDoor
open Go.ChangeShapes Go.WideShapes Go.ChangeAt Go.RowKit
set_option linter.unusedVariables false

theorem best_lens (ds : List Nat) (J : Nat) : (bestL ds J).length ≤ ds.length + 5 := by
  have hs := stored_len ds
  unfold bestL
  split <;> omega
set_option maxRecDepth 100000 in
set_option maxHeartbeats 8000000 in
theorem decode_any (w : World) (g c n wide high : Nat) (zp : List Int) (ds : List Nat) (J : Nat) (hw : 1 ≤ wide ∧ wide ≤ 36) (hh : 1 ≤ high ∧ high ≤ 36) (hz : zp.length = high * (4 * wide)) (h8 : ∀ z ∈ zp, 0 ≤ z ∧ z ≤ 255) (hds : rowsN zp (4 * wide) high = ints ds) (hd8 : ∀ d ∈ ds, d < 256) (hJ : Ends (ints ds) J) (hp8 : ∀ d ∈ bestL ds J, d < 256) (hT : Tabs w)
    (hn : (png wide high (pdata ds J)).length = n) (hc : n ≤ c) (hcm : c ≤ 9223372036854775807) (hA : At w g (png wide high (pdata ds J))) :
    Calls Tryz.prog 7 #[.slice (some ⟨g, 0, none⟩) n c] w fun e w' => ∃ P, e = .returned (.tuple #[.int .i64 (wide : Int), .int .i64 (high : Int), .slice (some ⟨P, 0, none⟩) zp.length zp.length, .int .i64 0]) ∧ Lz w' P 0 zp ∧ Nw w w' := by
  have h4 := hT.2.2.2.2
  have hdl : ds.length = (4 * wide + 1) * high := by
    have h := congrArg List.length hds
    rw [rowsN_len zp (4 * wide) high (by rw [hz]; exact Nat.le_refl _), ints_len, Nat.mul_comm] at h
    exact h.symm
  have hdl6 : ds.length ≤ 5300 := by rw [hdl]; exact Nat.le_trans (Nat.mul_le_mul (show 4 * wide + 1 ≤ 145 by omega) hh.2) (by omega)
  have hb := best_lens ds J
  have hpdl : (pdata ds J).length = (bestL ds J).length + 6 := by
    unfold pdata
    rw [List.length_append, List.length_append, ints_len, four_len]; simp; omega
  have hL : Lz w g 0 (mark8 ++ (chunk (strInts sIHDR) (head13 wide high) ++ (chunk (strInts sIDAT) (pdata ds J) ++ (chunk (strInts sIEND) [] ++ [])))) := by
    have h : Lz w g 0 (png wide high (pdata ds J)) := ⟨hA.1, hA.2.1⟩
    unfold png at h
    rwa [List.append_nil, ← List.append_assoc, ← List.append_assoc]
  have hpn : n = 57 + (pdata ds J).length := by
    rw [← hn]; unfold png
    simp only [List.length_append, chunk_len, strInts_len, head_len, List.length_nil]
    show 8 + (4 + 13 + 8) + (4 + (pdata ds J).length + 8) + (4 + 0 + 8) = _
    omega
  have hp8' : ∀ z ∈ pdata ds J, 0 ≤ z ∧ z ≤ 255 := pdata_u8 ds J hp8
  have L8 := hL.right
  have hL8 : Hid (Lz w g 0 mark8) := hL.left
  obtain ⟨L, hLe⟩ : ∃ L, (pdata ds J).length = L := ⟨_, rfl⟩
  have HRC : Hid (∀ W, Nw w W → Calls Tryz.prog 23 #[.slice (some ⟨g, 8, none⟩) (n - 8) (c - 8)] W fun e w' => ∃ v, e = .returned (.tuple #[fileV 4 (wide : Int) (high : Int) v, .int .i64 0]) ∧ Own w' W.heap.size v (pdata ds J) ∧ Nw W w') := fun W k =>
    readChunks_any W g 8 (n - 8) (c - 8) wide high (pdata ds J) hw hh hp8' (by omega) (by omega) (by omega) (by omega) (L8.nw k)
  have HUR : Hid (∀ W B v, Nw w W → Own W B v (pdata ds J) → Calls Tryz.prog 24 #[fileV 4 (wide : Int) (high : Int) v] W fun e w' => ∃ v', e = .returned (.tuple #[v', .bool true]) ∧ Own w' W.heap.size v' (ints ds) ∧ Nw W w') := fun W B v k o =>
    unpackRows_any W B v ds J wide high hw hh hdl hd8 hp8 hJ (hT.below k h4) o
  have HUF : Hid (∀ W g2 c2, ds.length ≤ c2 → c2 ≤ 9223372036854775807 → At W g2 (ints ds) → Calls Tryz.prog 25 #[.int .i64 (wide : Int), .int .i64 (high : Int), .slice (some ⟨g2, 0, none⟩) ds.length c2] W fun e w' => ∃ P, e = .returned (.tuple #[.slice (some ⟨P, 0, none⟩) zp.length zp.length, .bool true]) ∧ Lz w' P 0 zp ∧ Nw W w') := fun W g2 c2 k1 k2 a =>
    unfilterRows_any W g2 c2 wide high ds.length zp hw hh hz h8 (by rw [hds, ints_len]) k1 k2 (by rw [hds]; exact ⟨a.1, a.2.1⟩)
  have hn12 : decide ((12000 : Int) < (n : Int)) = false := by simp; omega
  have h8n : 8 ≤ n := by omega
  have h8c : 8 < c := by omega
  have hd0 : 0 < ds.length := by rw [hdl]; exact Nat.mul_pos (by omega) (by omega)
  clear hA hL L8 hT hJ hp8 hp8' hd8 hds hz h8 hdl hpn hpdl hLe hn
  go_enter Tryz.func7, Tryz.ntmps7
  go_wp2_with fail
  refine Calls.mono (ifileMark w) ?_
  rintro e w1 ⟨rfl, n1, o1⟩
  have M1 : Hid (Lz w1 w.heap.size 0 mark8) := by
    rcases o1.form with ⟨e, _⟩ | ⟨g2, c2, e, _, hg, hA⟩
    · cases e
    · injection e with e1 e2 e3
      injection e1 with e1
      injection e1 with e1
      subst e1
      exact ⟨hA.1, hA.2.1⟩
  have N1 : Hid (Nw w w1) := n1
  clear n1 o1
  go_wp2_with fail
  refine Calls.mono (prefix_any w1 g 0 n c w.heap.size h8n hc hcm (hL8.out.nw N1.out) M1.out) ?_
  rintro e w2 ⟨rfl, rfl⟩
  go_wp2_with fail
  refine Calls.mono (HRC.out w2 N1.out) ?_
  rintro e w3 ⟨v3, rfl, o3, n3⟩
  have N3 : Hid (Nw w w3) := Nw.trans N1.out n3
  have O3 : Hid (Own w3 w2.heap.size v3 (pdata ds J)) := o3
  obtain ⟨W4, hW4⟩ : ∃ W, w3.alloc (.cells #[.int .i64 4, .int .i64 (wide : Int), .int .i64 (high : Int), v3] 46) = W := ⟨_, rfl⟩
  have n4 : Nw w3 W4 := by rw [← hW4]; exact (Below.refl _ _).alloc (Nat.le_refl _) _
  have F4 : FAt W4 w3.heap.size 4 (wide : Int) (high : Int) v3 := by rw [← hW4]; exact FAt.new _ _ _ _ _ _
  have HF4 : Hid (FAt W4 w3.heap.size 4 (wide : Int) (high : Int) v3) := F4
  have O4 : Hid (Own W4 w2.heap.size v3 (pdata ds J)) := Own.nw o3 n4
  have N4 : Hid (Nw w W4) := Nw.trans N3.out n4
  have HW4 : Hid (_ = W4) := hW4
  obtain ⟨va, vn, vc, rfl⟩ : ∃ a n c, v3 = .slice a n c := by obtain ⟨a, c, e⟩ := Own.shape o3; exact ⟨a, _, c, e⟩
  clear o3 n3 n4 hW4
  obtain ⟨c0, c1, c2, c3, cf⟩ := F4
  unfold fileV
  go_upto_region 7 with fail
  rw [HW4.out]
  unfold fileV at HUR
  go_wp2_with fail
  refine Calls.mono (HUR.out W4 _ _ N4.out O4.out) ?_
  rintro e w5 ⟨v5, rfl, o5, n5⟩
  have N5 : Hid (Nw w w5) := Nw.trans N4.out n5
  have F5 : FAt w5 w3.heap.size 4 (wide : Int) (high : Int) (.slice va vn vc) := HF4.out.nw n5
  have HF5 : Hid (FAt w5 w3.heap.size 4 (wide : Int) (high : Int) (.slice va vn vc)) := F5
  have hcc : ∀ g5 m5 c5, v5 = .slice (some ⟨g5, 0, none⟩) m5 c5 → ds.length ≤ c5 ∧ c5 ≤ 9223372036854775807 := by
    intro g5 m5 c5 e
    rcases o5.2 with ⟨hn, _⟩ | ⟨g', cap, cur, e1, _, _, e2, e3, _⟩
    · rw [e] at hn; cases hn
    · rw [e] at e1; injection e1 with _ _ e'; subst e'
      rw [ints_len] at e2
      unfold maxLen at e3
      exact ⟨e2, e3⟩
  rcases own_ways o5 with ⟨_, e⟩ | ⟨g5, c5, rfl, hA5⟩
  · rw [e] at hd0; exact absurd hd0 (Nat.lt_irrefl _)
  obtain ⟨e1, e2⟩ := hcc g5 ds.length c5 rfl
  have HU5 : Hid _ := HUF.out w5 g5 c5 e1 e2 hA5
  clear o5 n5 hcc hA5 c0 c1 c2 c3 cf e1 e2
  obtain ⟨d0, d1, d2, d3, df⟩ := F5
  go_wp2_with fail
  refine Calls.mono HU5.out ?_
  rintro e w6 ⟨P, rfl, l6, n6⟩
  have N6 : Hid (Nw w w6) := Nw.trans N5.out n6
  have L6 : Hid (Lz w6 P 0 zp) := l6
  have F6 : FAt w6 w3.heap.size 4 (wide : Int) (high : Int) (.slice va vn vc) := HF5.out.nw n6
  clear l6 n6 d0 d1 d2 d3 df
  obtain ⟨d0, d1, d2, d3, df⟩ := F6
  go_wp2_with fail
  go_quiet (fail)
  go_wp2
  go_returns
  exact ⟨P, rfl, L6.out.drewN _, Nw.trans N6.out (nw_dn _ _)⟩
end Go.Proofs.YtaeicgfebeliiaaGreatDoor
namespace Go.Proofs.YtaeicgfebeliiaaGreatDoor
open Go.ChangeShapes Go.WideShapes Go.ChangeAt Go.RowKit
set_option linter.unusedVariables false

theorem vals_get (zs : List Int) (i : Nat) (h : i < zs.length) : (vals zs)[i]? = some (.int .u8 (zs.getD i 0)) := by simp [vals, h]
theorem below_setCells (B b : Nat) (hb : B ≤ b) : ∀ (vs : List Value) (o : Nat) (w : World), Below B w (w.setCells b o vs)
  | [], _, _ => Below.refl _ _
  | v :: r, o, w => ((Below.refl B w).setCell (show B ≤ (Addr.mk b o none).block from hb) v).trans (below_setCells B b hb r (o + 1) (w.setCell ⟨b, o, none⟩ v))
theorem bytes_nw (w : World) (s : ByteArray) : Nw w (Lib.bytesWorld w 5 s) :=
  ⟨rfl, rfl, rfl, by rw [Lib.bytesWorld_size]; omega, fun k hk => Lib.bytesWorld_at_old w _ s k hk⟩
theorem bytes_lie (w : World) (s : ByteArray) : Lie (Lib.bytesWorld w 5 s) w.heap.size 0 (strInts s) := by
  refine ⟨by rw [Lib.bytesWorld_size]; omega, fun i hi => ?_⟩
  rw [strInts_len] at hi
  rw [Nat.zero_add, Lib.bytesWorld_cell w _ s i hi]
  simp [strInts, hi]
theorem bytes_cells (w : World) (s : ByteArray) (j : Nat) (hj : j < grownCap w s.size 0 5) : ((Lib.bytesWorld w 5 s).cell? ⟨w.heap.size, j, none⟩).isSome = true ∧ (Lib.bytesWorld w 5 s).frozen? ⟨w.heap.size, j, none⟩ = false := by
  have hge := grownCap_ge w s.size 0 5
  have hsz : (Lib.bytesCells w 5 s).size = grownCap w s.size 0 5 := by simp [Lib.bytesCells]; omega
  have h := Lib.bytesWorld_at_new w 5 s
  have e : (Lib.bytesCells w 5 s)[j]? = some ((Lib.bytesCells w 5 s)[j]'(by omega)) := by simp
  constructor
  · simp [World.cell?, h, e]
  · simp [World.frozen?, h]; omega
/-- Data that may be appended: none, or bytes in a block. -/
def Src0 (w : World) (ad : Option Addr) (ds : List Int) : Prop := (ad = none ∧ ds = []) ∨ ∃ b off, ad = some ⟨b, off, none⟩ ∧ Lie w b off ds
theorem Data.src0 {w : World} {v : Value} {ad : Option Addr} {ds : List Int} (h : Data w v ad ds) : Src0 w ad ds := by
  rcases h with h | ⟨b, off, h1, h2, h3⟩
  · exact Or.inl h
  · exact Or.inr ⟨b, off, h1, h2⟩
theorem src_of {w : World} {ad : Option Addr} {ds : List Int} (c : Nat) (h : Src0 w ad ds) : Go.Src Tryz.prog 1 22 (.slice ad ds.length c) ds.length (vals ds) w := by
  rcases h with ⟨rfl, rfl⟩ | ⟨b, off, rfl, h2⟩
  · exact Go.Src.ofNil w Tryz.underlying22 c
  · exact Go.Src.ofSlice w Tryz.underlying22 ⟨b, off, none⟩ ds.length c (vals ds) (by rw [vals_len]; omega) (lie_add h2) (vals_one ds)
theorem run_conv (w : World) (s : ByteArray) (ty : TypeId) (ad : Option Addr) (c : Nat) (ds : List Int) (h : Src0 w ad ds) (hs : s.size ≤ 1000) (hl : ds.length ≤ 1000000) :
    ∃ g c' w', (Builtin.append_ #[22, 22] ty #[.slice (some ⟨w.heap.size, 0, none⟩) s.size (grownCap w s.size 0 5), .slice ad ds.length c]).run Tryz.prog (Lib.bytesWorld w 5 s) = .ok (.slice (some ⟨g, 0, none⟩) (s.size + ds.length) c') w' ∧ w.heap.size ≤ g ∧ Nw w w' ∧ Lie w' g 0 (strInts s ++ ds) := by
  obtain ⟨i0, hi, hz0, hz1, hz2⟩ := info_parts Tryz.info5
  have hnw := bytes_nw w s
  have hsrc : Src0 (Lib.bytesWorld w 5 s) ad ds := by
    rcases h with h | ⟨b, off, h1, h2⟩
    · exact Or.inl h
    · exact Or.inr ⟨b, off, h1, Lie.below h2 hnw h2.1⟩
  have hS := src_of c hsrc
  have hlie := bytes_lie w s
  have hsl := strInts_len s
  have hss : (Lib.bytesWorld w 5 s).heap.size = w.heap.size + 1 := Lib.bytesWorld_size w _ s
  by_cases hroom : s.size + ds.length ≤ grownCap w s.size 0 5
  · have hr := run_append_room_src (P := Tryz.prog) (Lib.bytesWorld w 5 s) 22 22 ty 5 i0 Tryz.underlying22 hi w.heap.size 0 s.size (grownCap w s.size 0 5) (.slice ad ds.length c) ds.length (vals ds) (by rw [hz1]; exact hS) hroom
      (fun j hj => by rw [vals_len] at hj; rw [hz1, Nat.zero_add, Nat.mul_one]; exact (bytes_cells w s _ (by omega)).1) (fun j hj => by rw [vals_len] at hj; rw [hz1, Nat.zero_add, Nat.mul_one]; exact (bytes_cells w s _ (by omega)).2)
    refine ⟨_, _, _, hr, Nat.le_refl _, ?_, ?_⟩
    · exact Below.trans hnw (below_setCells _ _ (Nat.le_refl _) _ _ _)
    · rw [hz1, Nat.zero_add, Nat.mul_one]
      have hbel := below_setCells w.heap.size w.heap.size (Nat.le_refl _) (vals ds) s.size (Lib.bytesWorld w 5 s)
      refine ⟨Nat.lt_of_lt_of_le (by omega) hbel.size, fun i hi2 => ?_⟩
      rw [List.length_append, hsl] at hi2
      by_cases h1 : i < s.size
      · rw [World.cell?_setCells_out w.heap.size (vals ds) s.size _ ⟨w.heap.size, 0 + i, none⟩ (fun _ _ => Or.inl (by show 0 + i < s.size; omega)), hlie.2 i (by omega)]
        simp only [List.getD_eq_getElem?_getD]
        rw [List.getElem?_append_left (by omega)]
      · obtain ⟨j, rfl⟩ : ∃ j, i = s.size + j := ⟨i - s.size, by omega⟩
        have := World.cell?_setCells_in w.heap.size (vals ds) s.size (Lib.bytesWorld w 5 s) (fun j hj => by rw [vals_len] at hj; exact (bytes_cells w s _ (by omega)).1) j (by rw [vals_len]; omega)
        rw [Nat.zero_add, this]
        simp only [List.getD_eq_getElem?_getD]
        rw [List.getElem?_append_right (by omega)]
        simp [vals, hsl, show j < ds.length by omega]
  · have hold : (Builtin.firstCells i0.size s.size (.slice (some ⟨w.heap.size, 0, none⟩) s.size (grownCap w s.size 0 5))).run Tryz.prog (Lib.bytesWorld w 5 s).drew = .ok (vals (strInts s)).toArray (Lib.bytesWorld w 5 s).drew := by
      rw [hz1]
      exact run_firstCells_some _ 1 s.size ⟨w.heap.size, 0, none⟩ s.size _ (vals (strInts s)) (by rw [vals_len, hsl]; omega) (fun j u hu => by simpa using lie_add hlie j u hu)
    have hr := run_append_grow_src (P := Tryz.prog) (Lib.bytesWorld w 5 s) 22 22 ty 5 i0 (.int .u8 0) Tryz.underlying22 hi hz0 _ s.size (grownCap w s.size 0 5) (vals (strInts s)) hold (.slice ad ds.length c) ds.length (vals ds) (by rw [hz1]; exact hS) (by omega) (by omega) (by rw [hz2]; exact growslice_fits (by omega) (by omega))
    refine ⟨_, _, _, hr, by omega, ?_, ?_⟩
    · exact Below.trans hnw ((Below.refl _ _).drew.alloc (by show _ ≤ (Lib.bytesWorld w 5 s).heap.size; omega) _)
    · refine ⟨by simp, fun i hi2 => ?_⟩
      have e1 := World.cell?_alloc_new (Lib.bytesWorld w 5 s).drew ((vals (strInts s) ++ vals ds).toArray ++ Builtin.zeroCells (Value.int .u8 0).cells (grownCap (Lib.bytesWorld w 5 s) (s.size + ds.length) (grownCap w s.size 0 5) 5 - (s.size + ds.length))) 5 (0 + i)
      refine Eq.trans e1 ?_
      rw [List.length_append, hsl] at hi2
      rw [Array.getElem?_append_left (by simp [vals_len, hsl]; omega), List.getElem?_toArray, ← vals_append, Nat.zero_add, vals_get _ _ (by rw [List.length_append, hsl]; exact hi2)]
/-- Data are appended to a text that was turned into bytes. -/
theorem wp_conv (w : World) {ops : Array Oper} {rest : List Oper} {o : Oper} {a : Act} {Q : Exit → Act → World → Prop} (hgd : o.guard = none) (sl x : Operand)
    (ho : o.op = .call { callee := .builtin .append, args := #[sl, x], argTypes := #[22, 22] })
    (s : ByteArray) (hs : a.eval sl = .slice (some ⟨w.heap.size, 0, none⟩) s.size (grownCap w s.size 0 5)) (ad : Option Addr) (c : Nat) (ds : List Int) (hx : a.eval x = .slice ad ds.length c) (hd : Src0 w ad ds) (hs1 : s.size ≤ 1000) (hl : ds.length ≤ 1000000)
    (h : ∀ g c' w', w.heap.size ≤ g → Nw w w' → Lie w' g 0 (strInts s ++ ds) → wpList Tryz.prog ops Q rest (a.put o.dst (.slice (some ⟨g, 0, none⟩) (s.size + ds.length) c')) w') : wpList Tryz.prog ops Q (o :: rest) a (Lib.bytesWorld w 5 s) := by
  refine wpList_plain hgd fun K hK => ?_
  obtain ⟨g, c', w', hr, h1, h2, h3⟩ := run_conv w s o.type ad c ds hd hs1 hl
  unfold Oper.wp execOp
  simp only [ho, resolve, invoke, builtin, Sem.run_bind, Sem.run_pure, Result.andThen_ok, List.map_toArray, List.map_cons, List.map_nil, hs, hx, hr]
  exact hK _ _ (h g c' w' h1 h2 h3)
end Go.Proofs.YtaeicgfebeliiaaGreatDoor
namespace Go.Proofs.YtaeicgfebeliiaaGreatDoor
open Go.ChangeShapes Go.WideShapes Go.ChangeAt Go.RowKit
set_option linter.unusedVariables false

theorem own_at0 {w : World} {B g n c : Nat} {zs : List Int} (h : Own w B (.slice (some ⟨g, 0, none⟩) n c) zs) : At w g zs := by
  rcases h.form with ⟨h, _⟩ | ⟨g', cc, h, _, _, h5⟩
  · cases h
  · injection h with e1; injection e1 with e1; injection e1 with e1; subst e1; exact h5
theorem sfour (W : World) (n : Int) (hn : 0 ≤ n ∧ n < 4294967296) : Calls Tryz.prog 43 #[.int .u32 n] W fun e w' => e = .returned (.slice (some ⟨W.heap.size, 0, none⟩) 4 4) ∧ Nw W w' ∧ Own w' W.heap.size (.slice (some ⟨W.heap.size, 0, none⟩) 4 4) (four n) := by
  have H : Hid (Own (W.alloc (.cells #[.int .u8 (n / 16777216), .int .u8 (n / 65536 % 256), .int .u8 (n / 256 % 256), .int .u8 (n % 256)] 5)) W.heap.size (.slice (some ⟨W.heap.size, 0, none⟩) 4 4) (four n)) := Own.lit W _ _ 4 _ rfl rfl (Nat.le_refl _) (by omega)
  go_enter Tryz.func43, Tryz.ntmps43
  go_wp2
  go_ret
  exact ⟨rfl, nw_alloc _ _, H.out⟩
theorem smark (W : World) : Calls Tryz.prog 45 #[] W fun e w' => e = .returned (.slice (some ⟨W.heap.size, 0, none⟩) 8 8) ∧ Nw W w' ∧ Own w' W.heap.size (.slice (some ⟨W.heap.size, 0, none⟩) 8 8) mark8 := by
  have H : Hid (Own (W.alloc (.cells #[.int .u8 137, .int .u8 80, .int .u8 78, .int .u8 71, .int .u8 13, .int .u8 10, .int .u8 26, .int .u8 10] 5)) W.heap.size (.slice (some ⟨W.heap.size, 0, none⟩) 8 8) [137, 80, 78, 71, 13, 10, 26, 10]) := Own.lit W _ _ 8 _ rfl rfl (Nat.le_refl _) (by omega)
  go_enter Tryz.func45, Tryz.ntmps45
  go_wp2
  go_ret
  exact ⟨rfl, nw_alloc _ _, H.out⟩

set_option maxHeartbeats 4000000 in
theorem schunk (W : World) (B : Nat) (v : Value) (zs : List Int) (s : ByteArray) (ad : Option Addr) (c : Nat) (ds : List Int) (hs : s.size ≤ 100) (hs0 : 0 < s.size) (hl : zs.length ≤ 1000000) (hd8 : ∀ z ∈ ds, 0 ≤ z ∧ z ≤ 255) (hdl : ds.length ≤ 1000000) (hc : ad = none → c = 0) (hB : B ≤ W.heap.size) (hown : Own W B v zs) (hd : Data W v ad ds) :
    Calls Tryz.prog 44 #[v, .string s, .slice ad ds.length c] W fun e w' => ∃ v', e = .returned v' ∧ Own w' B v' (zs ++ chunk (strInts s) ds) ∧ Ext v v' W w' := by
  have HOw : Hid _ := hown
  have HD : Hid _ := hd
  have H8 : Hid (∀ z ∈ strInts s ++ ds, 0 ≤ z ∧ z ≤ 255) := by
    intro z hz
    rcases List.mem_append.1 hz with hz | hz
    · simp [strInts] at hz
      obtain ⟨b, _, rfl⟩ := hz
      have := b.toNat_lt
      omega
    · exact hd8 z hz
  have HSL : Hid _ := strInts_len s
  have hn0 : 0 ≤ (ds.length : Int) ∧ (ds.length : Int) < 4294967296 := by omega
  clear hown hd hd8
  go_enter Tryz.func44, Tryz.ntmps44
  go_wp2_with fail
  refine Calls.mono (sfour W (ds.length : Int) hn0) ?_
  rintro e w1 ⟨rfl, h1, h2⟩
  have N1 : Hid (Nw W w1) := h1
  have L1 : Hid (Lie w1 W.heap.size 0 (four (ds.length : Int))) := At.lie (own_at0 h2)
  have O1 : Hid (Own w1 B v zs) := Own.nw HOw.out h1
  have z1 : W.heap.size ≤ w1.heap.size := Below.size h1
  clear h1 h2
  go_wp2_with (first
    | (at_builtin; (refine wp_app _ rfl _ _ rfl B v zs (four (ds.length : Int)) rfl O1.out W.heap.size 0 4 4 rfl rfl L1.out ?c1 ?c2 ?_))
    | go_in)
  case c1 => omega
  case c2 => omega
  intro v2 w2 h1 h2
  have O2 : Hid (Own w2 B v2 (zs ++ four (ds.length : Int))) := h1
  have E2 : Hid (Ext v v2 W w2) := Nw.ext N1.out h2
  have D2 : Hid (Data w2 v2 ad ds) := Data.ext HD.out E2.out
  have z2 : w1.heap.size ≤ w2.heap.size := Ext.size h2
  clear h1 h2 O1 L1 N1 HOw HD
  have hcv := Lib.run_convert_string_bytes (P := Tryz.prog) w2 9 22 5 s (u := .string) Tryz.underlying9 Tryz.underlying22 Tryz.underlying5
  go_wp2_with (first
    | (at_builtin; (refine wp_conv w2 rfl _ _ rfl s rfl ad c ds rfl (Data.src0 D2.out) ?c1 ?c2 ?_))
    | go_in)
  case c1 => omega
  case c2 => omega
  intro g c' w3 h1 h2 h3
  have HBL : Hid ((strInts s ++ ds).length = s.size + ds.length) := by show _ = _; rw [List.length_append, HSL.out]
  have L3 : Hid (Lie w3 g 0 (strInts s ++ ds)) := h3
  have O3 : Hid (Own w3 B v2 (zs ++ four (ds.length : Int))) := Own.nw O2.out h2
  have E3 : Hid (Ext v v2 W w3) := Ext.nw E2.out h2
  have z3 : w2.heap.size ≤ w3.heap.size := Below.size h2
  have hne : v2.ownBlock ≠ some g := fun e => by have := (Own.lt O2.out g e).2; omega
  have HF : Hid ((zs ++ four (ds.length : Int)).length = zs.length + 4) := by show _ = _; simp [four]
  clear h1 h2 h3 O2 E2 D2 hcv
  have HE : Hid (zs ++ four (ds.length : Int) ++ (strInts s ++ ds) ++ four (crc (strInts s ++ ds)) = zs ++ chunk (strInts s) ds) := by show _ = _; simp [chunk]
  generalize hz1 : zs ++ four (ds.length : Int) = z1 at *
  have HZ1 : Hid _ := hz1
  clear hz1
  have hcb := crc_bd (strInts s ++ ds)
  have HC : Hid (∀ w', Lie w' g 0 (strInts s ++ ds) → Calls Tryz.prog 65 #[.slice (some ⟨g, 0, none⟩) (s.size + ds.length) c'] w' fun e w2 => e = .returned (.int .u32 (crc (strInts s ++ ds))) ∧ w2 = w') := by
    intro w' h
    rw [← HBL.out]
    exact sl3crc w' _ c' _ (Or.inr ⟨g, 0, rfl, h.1, h.2⟩) (by rw [HBL.out]; omega) H8.out
  generalize hbd : strInts s ++ ds = bd at *
  have HBD : Hid _ := hbd
  clear hbd
  go_wp2_with (first
    | (at_builtin; (refine wp_app _ rfl _ _ rfl B v2 z1 bd rfl O3.out g 0 (s.size + ds.length) c' rfl HBL.out L3.out ?c1 ?c2 ?_))
    | go_in)
  case c1 => have := HF.out; omega
  case c2 => omega
  intro v4 w4 h1 h2
  have O4 : Hid (Own w4 B v4 (z1 ++ bd)) := h1
  have E4 : Hid (Ext v v4 W w4) := Ext.trans E3.out h2
  have L4 : Hid (Lie w4 g 0 bd) := Ext.lie h2 L3.out hne
  have z4 : w3.heap.size ≤ w4.heap.size := Ext.size h2
  clear h1 h2 O3 E3 L3 hne
  have HCC : Hid _ := HC.out w4 L4.out
  generalize crc bd = q at *
  go_wp2_with fail
  refine Calls.mono HCC.out ?_
  rintro e w4 ⟨rfl, rfl⟩
  go_wp2_with fail
  refine Calls.mono (sfour w4 q hcb) ?_
  rintro e w5 ⟨rfl, h1, h2⟩
  have L5 : Hid (Lie w5 w4.heap.size 0 (four q)) := At.lie (own_at0 h2)
  have O5 : Hid (Own w5 B v4 (z1 ++ bd)) := Own.nw O4.out h1
  have E5 : Hid (Ext v v4 W w5) := Ext.nw E4.out h1
  have z5 : w4.heap.size ≤ w5.heap.size := Below.size h1
  have hl5 : (z1 ++ bd).length ≤ 5000000 := by rw [List.length_append, HF.out, HBL.out]; omega
  clear h1 h2 O4 E4 L4 HC HCC
  generalize hz5 : z1 ++ bd = z6 at *
  have HZ5 : Hid _ := hz5
  clear hz5
  go_wp2_with (first
    | (at_builtin; (refine wp_app _ rfl _ _ rfl B v4 z6 (four q) rfl O5.out w4.heap.size 0 4 4 rfl rfl L5.out ?c1 ?c2 ?_))
    | go_in)
  case c1 => omega
  case c2 => omega
  intro v6 w6 h1 h2
  have HR : Hid (Own w6 B v6 (zs ++ chunk (strInts s) ds) ∧ Ext v v6 W w6) := ⟨by rw [← HE.out]; exact h1, Ext.trans E5.out h2⟩
  clear h1 h2 O5 E5 L5
  go_wp2
  go_ret
  exact ⟨_, rfl, HR.out⟩
end Go.Proofs.YtaeicgfebeliiaaGreatDoor
namespace Go.Proofs.YtaeicgfebeliiaaGreatDoor
open Go.ChangeShapes Go.WideShapes Go.ChangeAt Go.RowKit
set_option linter.unusedVariables false

theorem At.below {w w' : World} {b B : Nat} {zs : List Int} (h : At w b zs) (k : Below B w w') (hb : b < B) : At w' b zs :=
  ⟨Nat.lt_of_lt_of_le h.1 (Below.size k), fun i hi => (Below.cell k (p := ⟨b, 0 + i, none⟩) hb).trans (h.2.1 i hi), fun o => (Below.frozen k (p := ⟨b, o, none⟩) hb).trans (h.2.2 o)⟩

set_option maxHeartbeats 8000000 in
theorem iencode (W : World) (wide high b c : Nat) (zp : List Int) (ds : List Nat) (J : Nat) (hw : 1 ≤ wide ∧ wide ≤ 36) (hh : 1 ≤ high ∧ high ≤ 36) (hz : zp.length = high * (4 * wide)) (hc : zp.length ≤ c) (hcm : c ≤ 9223372036854775807) (h8 : ∀ z ∈ zp, 0 ≤ z ∧ z ≤ 255) (ha : At W b zp) (ht : Tabs W)
    (hds : rowsN zp (4 * wide) high = ints ds) (hd8 : ∀ d ∈ ds, d < 256) (hdl : ds.length ≤ 6000) (hd0 : 0 < ds.length) (hJ : Ends (ints ds) J) (hp8 : ∀ d ∈ bestL ds J, d < 256) :
    Calls Tryz.prog 5 #[.int .i64 (wide : Int), .int .i64 (high : Int), .slice (some ⟨b, 0, none⟩) zp.length c] W fun e w' => ∃ v, e = .returned (.tuple #[v, .bool true]) ∧ Nw W w' ∧ Own w' W.heap.size v (png wide high (pdata ds J)) := by
  have h4 : 4 ≤ W.heap.size := ht.2.2.2.2
  have S1 : Hid _ := igoodSide W (wide : Int)
  have e1 : decide (1 ≤ (wide : Int) ∧ (wide : Int) ≤ 36) = true := by simp; omega
  rw [e1] at S1
  have S2 : Hid _ := igoodSide W (high : Int)
  have e2 : decide (1 ≤ (high : Int) ∧ (high : Int) ≤ 36) = true := by simp; omega
  rw [e2] at S2
  have e3 : 4 * (wide : Int) * (high : Int) = (zp.length : Int) := by rw [hz, Nat.mul_comm]; simp
  have hzl : zp.length ≤ 5184 := by rw [hz]; calc high * (4 * wide) ≤ 36 * 144 := Nat.mul_le_mul hh.2 (by omega)
       _ = 5184 := rfl
  have e4 : ((zp.length : Int) != (zp.length : Int)) = false := by simp
  have hbW := ha.1
  have HL : Hid (Lie W b 0 zp) := At.lie ha
  have FR : Hid (∀ w', Below W.heap.size W w' → Calls Tryz.prog 19 #[.int .i64 (wide : Int), .int .i64 (high : Int), .slice (some ⟨b, 0, none⟩) zp.length c] w' fun e w2 => ∃ v, e = .returned v ∧ Nw w' w2 ∧ Own w2 w'.heap.size v (ints ds)) := by
    intro w' h
    rw [← hds]
    exact ifilterRows w' b 0 c wide high zp hw hh hz hc hcm h8 (Lie.below HL.out h hbW)
  have PR : Hid (∀ w' g c2, Below W.heap.size W w' → At w' g (ints ds) → Calls Tryz.prog 18 #[.slice (some ⟨g, 0, none⟩) (ints ds).length c2] w' fun e w2 => ∃ v, e = .returned v ∧ Nw w' w2 ∧ Own w2 w'.heap.size v (pdata ds J)) := by
    intro w' g c2 h hA
    rw [ints_len]
    exact ipackRows w' g c2 ds J hJ (ht.below h h4) hdl hd8 hA
  have hpl : (pdata ds J).length ≤ 200000 ∧ 6 ≤ (pdata ds J).length := by
    have h1 := bestL_len ds J hJ hdl
    have h2 : (pdata ds J).length = (bestL ds J).length + 6 := by simp [pdata, ints_len, four]
    omega
  have P8 : Hid _ := pdata_u8 ds J hp8
  have D8 : Hid _ := head_u8 wide high hw.2 hh.2
  have HIL : Hid ((ints ds).length = ds.length) := ints_len ds
  clear hz h8 ha ht hds hd8 hJ hp8 e1 e2 h4
  generalize pdata ds J = pd at *
  go_enter Tryz.func5, Tryz.ntmps5
  go_wp2_with fail
  refine Calls.mono S1.out ?_
  rintro e W ⟨rfl, rfl⟩
  go_wp2_with fail
  refine Calls.mono S2.out ?_
  rintro e W ⟨rfl, rfl⟩
  clear S1 S2
  have N1 : Hid _ := iappNum W W.heap.size (.slice none 0 0) [] (wide : Int) (by omega) (by simp) (Nat.le_refl _) (Own.nil _ _)
  go_wp2_with fail
  refine Calls.mono N1.out ?_
  rintro e w1 ⟨v1, rfl, h1, h2⟩
  have O1 : Hid (Own w1 W.heap.size v1 (four (wide : Int))) := h1
  have B1 : Hid (Below W.heap.size W w1) := Ext.below h2 (fun q hq => by simp [Value.ownBlock] at hq) (Nat.le_refl _)
  have z1 : W.heap.size ≤ w1.heap.size := Below.size B1.out
  clear h1 h2 N1
  have N2 : Hid _ := iappNum w1 W.heap.size v1 (four (wide : Int)) (high : Int) (by omega) (by simp [four]) z1 O1.out
  go_wp2_with fail
  refine Calls.mono N2.out ?_
  rintro e w2 ⟨v2, rfl, h1, h2⟩
  have O2 : Hid (Own w2 W.heap.size v2 (four (wide : Int) ++ four (high : Int))) := h1
  have B2 : Hid (Below W.heap.size W w2) := Below.trans B1.out (Ext.below h2 (fun q hq => (Own.lt O1.out q hq).1) z1)
  have z2 : W.heap.size ≤ w2.heap.size := Below.size B2.out
  clear h1 h2 N2 O1 B1
  go_wp2_with fail
  refine Calls.mono (iheadTail w2) ?_
  rintro e w3 ⟨rfl, h1, h2⟩
  have L3 : Hid (Lie w3 w2.heap.size 0 [8, 6, 0, 0, 0]) := by
    rcases h2.form with ⟨h, _⟩ | ⟨g, cc, h, _, _, h5⟩
    · cases h
    · injection h with e1; injection e1 with e1; injection e1 with e1; subst e1; exact At.lie h5
  have O3 : Hid (Own w3 W.heap.size v2 (four (wide : Int) ++ four (high : Int))) := Own.nw O2.out h1
  have B3 : Hid (Below W.heap.size W w3) := Below.trans B2.out (Below.mono h1 z2)
  have z3 : W.heap.size ≤ w3.heap.size := Below.size B3.out
  clear h1 h2 O2 B2
  go_wp2_with (first
    | (at_builtin; (refine wp_app _ rfl _ _ rfl W.heap.size v2 (four (wide : Int) ++ four (high : Int)) [8, 6, 0, 0, 0] rfl O3.out w2.heap.size 0 5 5 rfl rfl L3.out ?c1 z3 ?_))
    | go_in)
  case c1 => simp [four]
  intro v4 w4 h1 h2
  have O4 : Hid (Own w4 W.heap.size v4 (head13 wide high)) := h1
  have B4 : Hid (Below W.heap.size W w4) := Below.trans B3.out (Ext.below h2 (fun q hq => (Own.lt O3.out q hq).1) z3)
  have z4 : W.heap.size ≤ w4.heap.size := Below.size B4.out
  clear h1 h2 O3 B3 L3
  obtain ⟨g4, c4, rfl, q1, q2, q3, q4, q5⟩ := Own.some O4.out (by rw [head_len]; omega)
  have A4 : Hid (At w4 g4 (head13 wide high)) := q5
  clear q5 O4
  unfold maxLen at q4
  go_wp2_with fail
  refine Calls.mono (ifileMark w4) ?_
  rintro e w5 ⟨rfl, h1, h2⟩
  have O5 : Hid (Own w5 w4.heap.size (.slice (some ⟨w4.heap.size, 0, none⟩) 8 8) mark8) := h2
  have A5 : Hid (At w5 g4 (head13 wide high)) := At.nw A4.out h1
  have B5 : Hid (Below W.heap.size W w5) := Below.trans B4.out (Below.mono h1 z4)
  have z5 : w4.heap.size ≤ w5.heap.size := Below.size h1
  clear h1 h2 A4 B4
  have C1 : Hid _ := ichunk w5 w4.heap.size (.slice (some ⟨w4.heap.size, 0, none⟩) 8 8) mark8 sIHDR (some ⟨g4, 0, none⟩) c4 (head13 wide high) (by decide) (by decide) (by simp [mark8]) D8.out (by rw [head_len]; omega) (by simp) z5 O5.out (Or.inr ⟨g4, 0, rfl, At.lie A5.out, by simp [Value.ownBlock]; omega⟩)
  go_wp2_with fail
  refine Calls.mono C1.out ?_
  rintro e w6 ⟨v6, rfl, h1, h2⟩
  have hcl := chunk_len (strInts sIHDR) (head13 wide high)
  have hzA : (mark8 ++ chunk (strInts sIHDR) (head13 wide high)).length ≤ 100 := by rw [List.length_append, hcl, head_len]; decide
  clear hcl
  have HPN : Hid (png wide high pd = mark8 ++ chunk (strInts sIHDR) (head13 wide high) ++ chunk (strInts sIDAT) pd ++ chunk (strInts sIEND) []) := rfl
  have O6 : Hid (Own w6 w4.heap.size v6 (mark8 ++ chunk (strInts sIHDR) (head13 wide high))) := h1
  have B6 : Hid (Below W.heap.size W w6) := Below.trans B5.out (Ext.below h2 (fun q hq => Nat.le_trans z4 (Own.lt O5.out q hq).1) (by omega))
  have z6 : w5.heap.size ≤ w6.heap.size := Ext.size h2
  clear h1 h2 O5 A5 B5 C1 D8
  generalize mark8 ++ chunk (strInts sIHDR) (head13 wide high) = zA at *
  go_wp2_with fail
  refine Calls.mono (FR.out _ B6.out) ?_
  rintro e w7 ⟨v7, rfl, h1, h2⟩
  obtain ⟨g7, c7, rfl, r1, r2, r3, r4, r5⟩ := Own.some h2 (by rw [HIL.out]; exact hd0)
  have A7 : Hid (At w7 g7 (ints ds)) := r5
  have O7 : Hid (Own w7 w4.heap.size v6 zA) := Own.nw O6.out h1
  have B7 : Hid (Below W.heap.size W w7) := Below.trans B6.out (Below.mono h1 (by omega))
  have z7 : w6.heap.size ≤ w7.heap.size := Below.size h1
  clear h1 h2 r5 FR B6
  unfold maxLen at r4
  go_wp2_with fail
  refine Calls.mono (PR.out _ _ _ B7.out A7.out) ?_
  rintro e w8 ⟨v8, rfl, h1, h2⟩
  obtain ⟨g8, c8, rfl, s1, s2, s3, s4, s5⟩ := Own.some h2 (by omega)
  have A8 : Hid (At w8 g8 pd) := s5
  have O8 : Hid (Own w8 w4.heap.size v6 zA) := Own.nw O7.out h1
  have B8 : Hid (Below W.heap.size W w8) := Below.trans B7.out (Below.mono h1 (by omega))
  have z8 : w7.heap.size ≤ w8.heap.size := Below.size h1
  have hne : v6.ownBlock ≠ some g8 := by
    intro e
    have := (Own.lt O6.out g8 e).2
    omega
  clear h1 h2 s5 PR B7 A7 O7 O6
  unfold maxLen at s4
  have C2 : Hid _ := ichunk w8 w4.heap.size v6 zA sIDAT (some ⟨g8, 0, none⟩) c8 pd (by decide) (by decide) (by omega) P8.out (by omega) (by simp) (by omega) O8.out (Or.inr ⟨g8, 0, rfl, At.lie A8.out, hne⟩)
  go_wp2_with fail
  refine Calls.mono C2.out ?_
  rintro e w9 ⟨v9, rfl, h1, h2⟩
  have O9 : Hid (Own w9 w4.heap.size v9 (zA ++ chunk (strInts sIDAT) pd)) := h1
  have B9 : Hid (Below W.heap.size W w9) := Below.trans B8.out (Ext.below h2 (fun q hq => Nat.le_trans z4 (Own.lt O8.out q hq).1) (by omega))
  have z9 : w8.heap.size ≤ w9.heap.size := Ext.size h2
  have hl9 : (zA ++ chunk (strInts sIDAT) pd).length ≤ 300000 := by
    have e0 := chunk_len (strInts sIDAT) pd
    have e1 : (strInts sIDAT).length = 4 := rfl
    rw [List.length_append]
    omega
  clear h1 h2 B8 O8 C2 P8 A8 hne
  generalize zA ++ chunk (strInts sIDAT) pd = zB at *
  have C3 : Hid (Calls Tryz.prog 16 #[v9, .string sIEND, .slice none 0 0] w9 fun e w' => ∃ v', e = .returned v' ∧ Own w' w4.heap.size v' (zB ++ chunk (strInts sIEND) []) ∧ Ext v9 v' w9 w') := ichunk w9 w4.heap.size v9 zB sIEND none 0 [] (by decide) (by decide) (by omega) (by simp) (by simp) (by simp) (by omega) O9.out (Or.inl ⟨rfl, rfl⟩)
  go_wp2_with fail
  refine Calls.mono C3.out ?_
  rintro e w10 ⟨v10, rfl, h1, h2⟩
  have HR : Hid (Nw W w10 ∧ Own w10 W.heap.size v10 (png wide high pd)) := by
    refine ⟨Below.trans B9.out (Ext.below h2 (fun q hq => Nat.le_trans z4 (Own.lt O9.out q hq).1) (by omega)), ?_⟩
    rw [HPN.out]
    exact Own.base h1 z4
  clear h1 h2
  go_wp2
  go_ret2
  exact ⟨_, rfl, HR.out⟩
end Go.Proofs.YtaeicgfebeliiaaGreatDoor
