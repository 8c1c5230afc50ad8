/-
  What the program's helpers of EncodePng do: numbers, chunks, marks; each theorem names its conditions.
  The number of four bytes, read by the program; each theorem names its conditions.
  What the looks at kinds, sides and rows answer, and the filter of a kind; each theorem names its conditions.
  What the program's FilterRow and UnfilterRow do for the kind 0; each theorem names its conditions.
-/
import Derived.Test.YtaeicgfebeliiaaGreatDoorJAK
import Derived.Test.YtaeicgfebeliiaaGreatDoorJAA
namespace Go.Proofs.YtaeicgfebeliiaaGreatDoor
open Go.ChangeShapes Go.WideShapes Go.ChangeAt Go.RowKit
set_option linter.unusedVariables false

def four (n : Int) : List Int := [n / 16777216, n / 65536 % 256, n / 256 % 256, n % 256]
theorem four_len (n : Int) : (four n).length = 4 := rfl
theorem four_u8 (n : Int) (h : 0 ≤ n ∧ n < 4294967296) : ∀ z ∈ four n, 0 ≤ z ∧ z ≤ 255 := by
  intro z hz
  simp [four] at hz
  rcases hz with rfl | rfl | rfl | rfl <;> omega
theorem nw_alloc (w : World) (o : Obj) : Nw w (w.alloc o) := (Below.refl _ _).alloc (Nat.le_refl _) _
theorem lit_lie (w : World) (cs : Array Value) (t : TypeId) (zs : List Int) (hc : cs.toList = vals zs) : Lie (w.alloc (.cells cs t)) w.heap.size 0 zs := by
  refine ⟨by simp, fun i hi => ?_⟩
  have e : cs[i]? = some (.int .u8 (zs.getD i 0)) := by
    rw [← Array.getElem?_toList, hc]; simp [vals, hi]
  simp [e]

set_option maxHeartbeats 1000000 in
theorem iappNum (W : World) (B : Nat) (v : Value) (zs : List Int) (n : Int) (hn : 0 ≤ n ∧ n < 4294967296) (hl : zs.length ≤ 5000000) (hB : B ≤ W.heap.size) (hown : Own W B v zs) :
    Calls Tryz.prog 14 #[v, .int .u32 n] W fun e w' => ∃ v', e = .returned v' ∧ Own w' B v' (zs ++ four n) ∧ Ext v v' W w' := by
  have HO : Hid _ := hown
  clear hown
  go_enter Tryz.func14, Tryz.ntmps14
  go_wp2_with (first
    | (at_builtin; (refine wp_app _ rfl _ _ rfl B v zs (four n) rfl (Own.nw HO.out (nw_alloc _ _)) W.heap.size 0 4 4 rfl rfl ?c1 ?c2 ?c3 ?_))
    | go_in)
  case c1 => exact lit_lie _ _ _ _ rfl
  case c2 => omega
  case c3 => simp; omega
  intro v' w1 h1 h2
  have H1 : Hid (Own w1 B v' (zs ++ four n)) := h1
  have H2 : Hid (Ext v v' W w1) := Nw.ext (nw_alloc _ _) h2
  clear h1 h2
  go_wp2
  go_ret
  exact ⟨_, rfl, H1.out, H2.out⟩

theorem iheadTail (W : World) : Calls Tryz.prog 15 #[] W fun e w' => e = .returned (.slice (some ⟨W.heap.size, 0, none⟩) 5 5) ∧ Nw W w' ∧ Own w' W.heap.size (.slice (some ⟨W.heap.size, 0, none⟩) 5 5) [8, 6, 0, 0, 0] := by
  have H : Hid (Own (W.alloc (.cells #[.int .u8 8, .int .u8 6, .int .u8 0, .int .u8 0, .int .u8 0] 5)) W.heap.size (.slice (some ⟨W.heap.size, 0, none⟩) 5 5) [8, 6, 0, 0, 0]) := Own.lit W _ _ 5 _ rfl rfl (Nat.le_refl _) (by omega)
  go_enter Tryz.func15, Tryz.ntmps15
  go_wp2
  go_ret
  exact ⟨rfl, nw_alloc _ _, H.out⟩
theorem ifileMark (W : World) : Calls Tryz.prog 17 #[] W fun e w' => e = .returned (.slice (some ⟨W.heap.size, 0, none⟩) 8 8) ∧ Nw W w' ∧ Own w' W.heap.size (.slice (some ⟨W.heap.size, 0, none⟩) 8 8) [137, 80, 78, 71, 13, 10, 26, 10] := by
  have H : Hid (Own (W.alloc (.cells #[.int .u8 137, .int .u8 80, .int .u8 78, .int .u8 71, .int .u8 13, .int .u8 10, .int .u8 26, .int .u8 10] 5)) W.heap.size (.slice (some ⟨W.heap.size, 0, none⟩) 8 8) [137, 80, 78, 71, 13, 10, 26, 10]) := Own.lit W _ _ 8 _ rfl rfl (Nat.le_refl _) (by omega)
  go_enter Tryz.func17, Tryz.ntmps17
  go_wp2
  go_ret
  exact ⟨rfl, nw_alloc _ _, H.out⟩

/-- A chunk: how many data, the name, the data, the sum of both. -/
def chunk (s : List Int) (ds : List Int) : List Int := four (ds.length : Int) ++ s ++ ds ++ four (crc (s ++ ds))
theorem chunk_len (s ds : List Int) : (chunk s ds).length = s.length + ds.length + 8 := by simp [chunk, four]; omega
/-- What is appended to v: nothing, or the bytes ds in another block. -/
def Data (w : World) (v : Value) (ad : Option Addr) (ds : List Int) : Prop := (ad = none ∧ ds = []) ∨ ∃ b off, ad = some ⟨b, off, none⟩ ∧ Lie w b off ds ∧ v.ownBlock ≠ some b
theorem Data.ext {w w' : World} {v v' : Value} {ad : Option Addr} {ds : List Int} (h : Data w v ad ds) (k : Ext v v' w w') : Data w' v' ad ds := by
  rcases h with h | ⟨b, off, h1, h2, h3⟩
  · exact Or.inl h
  · exact Or.inr ⟨b, off, h1, k.lie h2 h3, k.apart h2.1 h3⟩
/-- Data are appended, or nothing. -/
theorem wp_data (w : World) {ops : Array Oper} {rest : List Oper} {o : Oper} {a : Act} {Q : Exit → Act → World → Prop} (hgd : o.guard = none) (s x : Operand)
    (ho : o.op = .call { callee := .builtin .append, args := #[s, x], argTypes := #[22, 22] })
    (B : Nat) (g n c0 : Nat) (zs ds : List Int) (hs : a.eval s = .slice (some ⟨g, 0, none⟩) n c0) (hn : n ≤ c0) (hown : Own w B (.slice (some ⟨g, 0, none⟩) n c0) zs) (ad : Option Addr) (m c : Nat) (hc : ad = none → c = 0) (hx : a.eval x = .slice ad m c) (hm : ds.length = m) (hd : Data w (.slice (some ⟨g, 0, none⟩) n c0) ad ds)
    (h63 : zs.length + m ≤ 10000000) (hB : B ≤ w.heap.size)
    (h : ∀ v' w', Own w' B v' (zs ++ ds) → Ext (.slice (some ⟨g, 0, none⟩) n c0) v' w w' → wpList Tryz.prog ops Q rest (a.put o.dst v') w') : wpList Tryz.prog ops Q (o :: rest) a w := by
  rcases hd with ⟨rfl, rfl⟩ | ⟨b, off, rfl, h2, h3⟩
  · subst hm
    obtain ⟨i0, hi, hz0, hz1, hz2⟩ := info_parts Tryz.info5
    have hr := run_append_nothing (P := Tryz.prog) w 22 22 o.type 5 i0 Tryz.underlying22 hi (some ⟨g, 0, none⟩) n c0 hn (.slice none 0 c) (Src.ofNil w Tryz.underlying22 c)
    refine wpList_plain hgd fun K hK => ?_
    unfold Oper.wp execOp
    simp only [List.length_nil] at hx
    simp only [ho, resolve, invoke, builtin, Sem.run_bind, Sem.run_pure, Result.andThen_ok, List.map_toArray, List.map_cons, List.map_nil, hs, hx, hr]
    exact hK _ _ (h _ _ (by rw [List.append_nil]; exact hown) (Ext.refl _ _))
  · exact wp_app w hgd s x ho B _ zs ds hs hown b off m c hx hm h2 h63 hB h
theorem row_sub {w : World} {g : Nat} {xs ys : List Int} (h : At w g (xs ++ ys)) : Row .u8 w (some ⟨g, xs.length, none⟩) ys := by
  refine Or.inr ⟨g, xs.length, rfl, h.1, fun i hi => ?_⟩
  have := h.2.1 (xs.length + i) (by simp; omega)
  rw [Nat.zero_add] at this
  rw [this]
  congr 2
  simp only [List.getD_eq_getElem?_getD]
  rw [List.getElem?_append_right (by omega)]
  simp

set_option maxHeartbeats 4000000 in
theorem ichunk (W : World) (B : Nat) (v : Value) (zs : List Int) (s : ByteArray) (ad : Option Addr) (c : Nat) (ds : List Int) (hs : s.size ≤ 100) (hs0 : 0 < s.size) (hl : zs.length ≤ 1000000) (hd8 : ∀ z ∈ ds, 0 ≤ z ∧ z ≤ 255) (hdl : ds.length ≤ 1000000) (hc : ad = none → c = 0) (hB : B ≤ W.heap.size) (hown : Own W B v zs) (hd : Data W v ad ds) :
    Calls Tryz.prog 16 #[v, .string s, .slice ad ds.length c] W fun e w' => ∃ v', e = .returned v' ∧ Own w' B v' (zs ++ chunk (strInts s) ds) ∧ Ext v v' W w' := by
  have H1 : Hid _ := iappNum W B v zs (ds.length : Int) (by omega) (by omega) hB hown
  have HD : Hid _ := hd
  have H8 : Hid (∀ z ∈ strInts s ++ ds, 0 ≤ z ∧ z ≤ 255) := by
    intro z hz
    rcases List.mem_append.1 hz with hz | hz
    · simp [strInts] at hz
      obtain ⟨b, _, rfl⟩ := hz
      have := b.toNat_lt
      omega
    · exact hd8 z hz
  have HSL : Hid _ := strInts_len s
  clear hown hd hd8
  go_enter Tryz.func16, Tryz.ntmps16
  go_wp2_with fail
  refine Calls.mono H1.out ?_
  rintro e w1 ⟨v1, rfl, h1, h2⟩
  have HF : Hid ((zs ++ four (ds.length : Int)).length = zs.length + 4) := by show _ = _; simp [four]
  have hf1 : (zs ++ four (ds.length : Int)).length ≤ zs.length + 4 := Nat.le_of_eq HF.out
  have hf2 : 4 ≤ (zs ++ four (ds.length : Int)).length := by rw [HF.out]; omega
  obtain ⟨g1, c1, rfl, hg1, hg2, hg3, hg4, hg5⟩ := h1.some (by omega)
  have O1 : Hid (Own w1 B (.slice (some ⟨g1, 0, none⟩) (zs ++ four (ds.length : Int)).length c1) (zs ++ four (ds.length : Int))) := h1
  have E1 : Hid (Ext v (.slice (some ⟨g1, 0, none⟩) (zs ++ four (ds.length : Int)).length c1) W w1) := h2
  have D1 : Hid (Data w1 (.slice (some ⟨g1, 0, none⟩) (zs ++ four (ds.length : Int)).length c1) ad ds) := Data.ext HD.out h2
  have hB1 : B ≤ w1.heap.size := Nat.le_trans hB h2.size
  clear h1 h2 hg5 H1 HD
  unfold maxLen at hg4
  generalize hz1 : zs ++ four (ds.length : Int) = z1 at *
  have HZ1 : Hid _ := hz1
  clear hz1
  go_wp2_with (first
    | (at_builtin; (refine wp_str _ rfl _ _ rfl B g1 _ c1 z1 rfl O1.out s rfl ?c1 hB1 ?_))
    | go_in)
  case c1 => omega
  intro v2 w2 h1 h2
  have hl2 : (z1 ++ strInts s).length ≤ zs.length + 4 + s.size ∧ z1.length < (z1 ++ strInts s).length := by rw [List.length_append, HSL.out]; omega
  obtain ⟨g2, c2, rfl, hh1, hh2, hh3, hh4, hh5⟩ := h1.some (by omega)
  have O2 : Hid _ := h1
  have E2 : Hid _ := Ext.trans E1.out h2
  have D2 : Hid _ := Data.ext D1.out h2
  have hB2 : B ≤ w2.heap.size := Nat.le_trans hB1 h2.size
  clear h1 h2 hh5 O1 E1 D1
  unfold maxLen at hh4
  generalize hz2 : z1 ++ strInts s = z2 at *
  have HZ2 : Hid _ := hz2
  clear hz2
  go_wp2_with (first
    | (at_builtin; (refine wp_data _ rfl _ _ rfl B g2 _ c2 z2 ds rfl hh3 O2.out ad ds.length c hc rfl rfl D2.out ?c1 hB2 ?_))
    | go_in)
  case c1 => omega
  intro v3 w3 h1 h2
  have hl3 : (z2 ++ ds).length ≤ zs.length + 4 + s.size + ds.length ∧ z1.length < (z2 ++ ds).length := by have e := @List.length_append _ z2 ds; omega
  obtain ⟨g3, c3, rfl, hk1, hk2, hk3, hk4, hk5⟩ := h1.some (by omega)
  have O3 : Hid _ := h1
  have E3 : Hid _ := Ext.trans E2.out h2
  have hB3 : B ≤ w3.heap.size := Nat.le_trans hB2 h2.size
  have R3 : Hid (Row .u8 w3 (some ⟨g3, z1.length, none⟩) (strInts s ++ ds)) := row_sub (xs := z1) (ys := strInts s ++ ds) (by rw [← List.append_assoc, HZ2.out]; exact hk5)
  clear h1 h2 hk5 O2 E2 D2
  unfold maxLen at hk4
  have HL3 : Hid ((z2 ++ ds).length - z1.length = (strInts s ++ ds).length) := by show _ = _; rw [← HZ2.out]; simp
  have HL4 : Hid ((strInts s ++ ds).length ≤ 1048576) := by show _ ≤ _; rw [List.length_append, HSL.out]; omega
  have HE : Hid (z2 ++ ds = zs ++ (four (ds.length : Int) ++ strInts s ++ ds)) := by show _ = _; rw [← HZ2.out, ← HZ1.out]; simp
  have hc3 : z1.length < c3 := by omega
  generalize (z2 ++ ds) = z3 at *
  have HC : Hid (Calls Tryz.prog 38 #[.slice (some ⟨g3, z1.length, none⟩) (z3.length - z1.length) (c3 - z1.length)] w3 fun e w' => e = .returned (.int .u32 (crc (strInts s ++ ds))) ∧ w' = w3) := by
    rw [HL3.out]; exact icrc w3 _ _ _ R3.out HL4.out H8.out
  have hcb := crc_bd (strInts s ++ ds)
  have HN : Hid _ := iappNum w3 B _ z3 (crc (strInts s ++ ds)) hcb (by omega) hB3 O3.out
  have HR : Hid (z3 ++ four (crc (strInts s ++ ds)) = zs ++ chunk (strInts s) ds) := by show _ = _; rw [HE.out]; simp [chunk]
  generalize crc (strInts s ++ ds) = q at *
  clear HL3 HL4 R3 H8 HE O3
  go_wp2_with fail
  refine Calls.mono HC.out ?_
  rintro e w3 ⟨rfl, rfl⟩
  go_wp2_with fail
  refine Calls.mono HN.out ?_
  rintro e w4 ⟨v4, rfl, h1, h2⟩
  have O4 : Hid (Own w4 B v4 (zs ++ chunk (strInts s) ds)) := by rw [← HR.out]; exact h1
  have E4 : Hid (Ext v v4 W w4) := Ext.trans E3.out h2
  clear h1 h2 HC HN HR E3
  go_wp2
  go_ret
  exact ⟨_, rfl, O4.out, E4.out⟩
end Go.Proofs.YtaeicgfebeliiaaGreatDoor
namespace Go.Proofs.YtaeicgfebeliiaaGreatDoor
open Go.ChangeShapes Go.WideShapes Go.ChangeAt Go.RowKit
set_option linter.unusedVariables false

/-- What the first k of the four bytes tell. -/
def nk (N : Int) (k : Nat) : Int := if k = 0 then 0 else if k = 1 then N / 16777216 else if k = 2 then N / 65536 else if k = 3 then N / 256 else N
theorem nk_next (N : Int) (h : 0 ≤ N ∧ N < 4294967296) (k : Nat) (hk : k < 4) : nk N (k + 1) = nk N k * 256 + (four N).getD k 0 ∧ 0 ≤ nk N k ∧ nk N k < 16777216 ∧ 0 ≤ (four N).getD k 0 ∧ (four N).getD k 0 < 256 := by
  rcases (show k = 0 ∨ k = 1 ∨ k = 2 ∨ k = 3 by omega) with rfl | rfl | rfl | rfl <;> simp [nk, four] <;> omega
theorem or_num4 (X y : Int) (hx : 0 ≤ X ∧ X < 16777216) (hy : 0 ≤ y ∧ y < 256) : bits .or .i64 (X * 256) y = X * 256 + y := by
  obtain ⟨a, rfl⟩ := Int.eq_ofNat_of_zero_le hx.1
  obtain ⟨b, rfl⟩ := Int.eq_ofNat_of_zero_le hy.1
  have h1 : a * 256 ||| b = a * 256 + b := by
    have := Nat.two_pow_add_eq_or_of_lt (i := 8) (b := b) (by omega) a
    rw [Nat.mul_comm]
    exact this.symm
  have e : (a : Int) * 256 = ((a * 256 : Nat) : Int) := by omega
  have h := (bits_nat .i64 60 (by decide) (fun n h0 h2 => by rw [IntKind.wrap_i64]; omega) (a * 256) b (by omega) (by omega)).2
  rw [e, h, h1]; omega
set_option maxHeartbeats 2000000 in
theorem numberAt_any (w : World) (g off n c at' : Nat) (N : Int) (hN : 0 ≤ N ∧ N < 4294967296) (hn : n ≤ 1000000) (hc : n ≤ c) (hcm : c ≤ 9223372036854775807) (ha : at' + 4 ≤ n) (hd : ∀ i, i < 4 → w.cell? ⟨g, off + at' + i, none⟩ = some (.int .u8 ((four N).getD i 0))) :
    Calls Tryz.prog 52 #[.slice (some ⟨g, off, none⟩) n c, .int .i64 (at' : Int)] w fun e w' => e = .returned (.int .i64 N) ∧ w' = w := by
  have HD : Hid _ := hd
  have HN : Hid _ := hN
  have h4 : at' + 4 - at' = 4 := by omega
  have hw4 : IntKind.i64.wrap ((at' : Int) + 4) = ((at' + 4 : Nat) : Int) := by rw [IntKind.wrap_i64]; omega
  have hac : at' + 4 ≤ c := by omega
  clear hd hN
  go_enter Tryz.func52, Tryz.ntmps52
  go_wp2
  go_loop [5, 14] (fun x i => ∃ k : Nat, k ≤ 4 ∧ x = .int .i64 (nk N k) ∧ i = .int .i64 (k : Int)) (fun _ i => 4 - (intOf i).toNat)
  case atStart => exact ⟨0, by omega, rfl, rfl⟩
  case round =>
    obtain ⟨k, hk, rfl, rfl⟩ := hrel
    by_cases hlt : k < 4
    · have q := HD.out k hlt
      obtain ⟨e1, e2, e3, e4, e5⟩ := nk_next N HN.out k hlt
      have H1 : Hid _ := e1
      generalize nk N k = X at *
      generalize (four N).getD k 0 = y at *
      have ho := or_num4 X y ⟨e2, e3⟩ ⟨e4, e5⟩
      have k4 : (k : Int) < 4 := by omega
      clear e1
      go_wp2
      go_round
      case rel => exact ⟨k + 1, by omega, by rw [H1.out], by go_num⟩
      case measure => simp [intOf]; omega
    · have e : k = 4 := by omega
      subst e
      go_wp2
      go_ret
      exact ⟨rfl, rfl⟩
end Go.Proofs.YtaeicgfebeliiaaGreatDoor
namespace Go.Proofs.YtaeicgfebeliiaaGreatDoor
open Go.ChangeShapes Go.WideShapes Go.ChangeAt Go.RowKit
set_option linter.unusedVariables false

/-- Rows that may be filtered. -/
def RowOk (n m : Nat) : Prop := 0 < n ∧ n % 4 = 0 ∧ n ≤ 144 ∧ m = n
theorem igoodKind (w : World) (k : Int) : Calls Tryz.prog 30 #[.int .i64 k] w fun e w' => e = .returned (.bool (decide (0 ≤ k ∧ k ≤ 4))) ∧ w' = w := by
  by_cases h1 : 0 ≤ k
  · by_cases h2 : k < 5
    · have e : decide (0 ≤ k ∧ k ≤ 4) = true := by simp; omega
      rw [e]; clear e
      go_enter Tryz.func30, Tryz.ntmps30
      go_wp2
      go_ret
      exact ⟨rfl, rfl⟩
    · have e : decide (0 ≤ k ∧ k ≤ 4) = false := by simp; omega
      rw [e]; clear e
      go_enter Tryz.func30, Tryz.ntmps30
      go_wp2
      go_ret
      exact ⟨rfl, rfl⟩
  · have e : decide (0 ≤ k ∧ k ≤ 4) = false := by simp; omega
    rw [e]; clear e
    go_enter Tryz.func30, Tryz.ntmps30
    go_wp2
    go_ret
    exact ⟨rfl, rfl⟩
theorem igoodSide (w : World) (k : Int) : Calls Tryz.prog 13 #[.int .i64 k] w fun e w' => e = .returned (.bool (decide (1 ≤ k ∧ k ≤ 36))) ∧ w' = w := by
  by_cases h1 : 1 ≤ k
  · by_cases h2 : k ≤ 36
    · have e : decide (1 ≤ k ∧ k ≤ 36) = true := by simp; omega
      rw [e]; clear e
      go_enter Tryz.func13, Tryz.ntmps13
      go_wp2
      go_ret
      exact ⟨rfl, rfl⟩
    · have e : decide (1 ≤ k ∧ k ≤ 36) = false := by simp; omega
      rw [e]; clear e
      go_enter Tryz.func13, Tryz.ntmps13
      go_wp2
      go_ret
      exact ⟨rfl, rfl⟩
  · have e : decide (1 ≤ k ∧ k ≤ 36) = false := by simp; omega
    rw [e]; clear e
    go_enter Tryz.func13, Tryz.ntmps13
    go_wp2
    go_ret
    exact ⟨rfl, rfl⟩
theorem sl1In (w : World) (k a b : Int) : Calls Tryz.prog 34 #[.int .i64 k, .int .i64 a, .int .i64 b] w fun e w' => e = .returned (.bool (decide (a ≤ k ∧ k ≤ b))) ∧ w' = w := by
  by_cases h1 : a ≤ k
  · by_cases h2 : k ≤ b
    · have e : decide (a ≤ k ∧ k ≤ b) = true := by simp; omega
      rw [e]; clear e
      go_enter Tryz.func34, Tryz.ntmps34
      go_wp2
      go_ret
      exact ⟨rfl, rfl⟩
    · have e : decide (a ≤ k ∧ k ≤ b) = false := by simp; omega
      rw [e]; clear e
      go_enter Tryz.func34, Tryz.ntmps34
      go_wp2
      go_ret
      exact ⟨rfl, rfl⟩
  · have e : decide (a ≤ k ∧ k ≤ b) = false := by simp; omega
    rw [e]; clear e
    go_enter Tryz.func34, Tryz.ntmps34
    go_wp2
    go_ret
    exact ⟨rfl, rfl⟩
theorem igoodRows_yes (w : World) (a1 a2 : Option Addr) (n c1 c2 : Nat) (h : RowOk n n) : Calls Tryz.prog 31 #[.slice a1 n c1, .slice a2 n c2] w fun e w' => e = .returned (.bool true) ∧ w' = w := by
  obtain ⟨h1, h2, h3, _⟩ := h
  have HS : Hid _ := igoodSide w ((n : Int) / 4)
  have e : decide (1 ≤ (n : Int) / 4 ∧ (n : Int) / 4 ≤ 36) = true := by simp; omega
  rw [e] at HS
  have h4 : ((n : Int) % 4 == 0) = true := by simp; omega
  have h5 : ((n : Int) == (n : Int)) = true := by simp
  clear e h2
  go_enter Tryz.func31, Tryz.ntmps31
  go_wp2_with fail
  refine Calls.mono HS.out ?_
  rintro e w1 ⟨rfl, rfl⟩
  go_wp2
  go_ret
  exact ⟨rfl, rfl⟩
theorem igoodRows_no (w : World) (a1 a2 : Option Addr) (n m c1 c2 : Nat) (hn : n ≤ 1048576) (hm : m ≤ 1048576) (h : ¬ RowOk n m) : Calls Tryz.prog 31 #[.slice a1 n c1, .slice a2 m c2] w fun e w' => e = .returned (.bool false) ∧ w' = w := by
  have HS : Hid _ := igoodSide w ((n : Int) / 4)
  by_cases h2 : n % 4 = 0
  · have h4 : ((n : Int) % 4 == 0) = true := by simp; omega
    by_cases h3 : 1 ≤ (n : Int) / 4 ∧ (n : Int) / 4 ≤ 36
    · have e : decide (1 ≤ (n : Int) / 4 ∧ (n : Int) / 4 ≤ 36) = true := by simp; omega
      rw [e] at HS
      have h5 : m ≠ n := fun e => h ⟨by omega, h2, by omega, e⟩
      have h6 : ((m : Int) == (n : Int)) = false := by rw [beq_eq_false_iff_ne]; omega
      clear e h2 h3 h h5
      go_enter Tryz.func31, Tryz.ntmps31
      go_wp2_with fail
      refine Calls.mono HS.out ?_
      rintro e w1 ⟨rfl, rfl⟩
      go_wp2
      go_ret
      exact ⟨rfl, rfl⟩
    · have e : decide (1 ≤ (n : Int) / 4 ∧ (n : Int) / 4 ≤ 36) = false := by simp; omega
      rw [e] at HS
      clear e h2 h3 h
      go_enter Tryz.func31, Tryz.ntmps31
      go_wp2_with fail
      refine Calls.mono HS.out ?_
      rintro e w1 ⟨rfl, rfl⟩
      go_wp2
      go_ret
      exact ⟨rfl, rfl⟩
  · have h4 : ((n : Int) % 4 == 0) = false := by rw [beq_eq_false_iff_ne]; omega
    clear h HS h2
    go_enter Tryz.func31, Tryz.ntmps31
    go_wp2
    go_ret
    exact ⟨rfl, rfl⟩
theorem run_store_func (P : Program) (w : World) (a : Addr) (m : Mode) (f : Fn) (x y : Array Value) : (store a (.func f x y) m).run P w = stored P w a (.func f x y) m := run_store P w a _ m rfl
attribute [local go_sem] run_store_func
def guessFn (k : Nat) : Nat := if k = 0 then 54 else if k = 1 then 55 else if k = 2 then 56 else if k = 3 then 57 else 58
theorem ifilterOf (w : World) (k : Nat) (h : k ≤ 4) : Calls Tryz.prog 32 #[.int .i64 (k : Int)] w fun e w' => e = .returned (.agg #[.func (.func (guessFn k)) #[] #[]]) ∧ Nw w w' := by
  have h : k = 0 ∨ k = 1 ∨ k = 2 ∨ k = 3 ∨ k = 4 := by omega
  rcases h with rfl | rfl | rfl | rfl | rfl
  · show Calls Tryz.prog 32 #[.int .i64 0] w _
    go_enter Tryz.func32, Tryz.ntmps32
    go_wp2
    exact bodyPost_ret (v := .agg #[.func (.func 54) #[] #[]]) (by simp [results, Tryz.results32, go_sem]) rfl ⟨rfl, (((Below.refl _ _).alloc (Nat.le_refl _) _).alloc (by simp) _)⟩
  · show Calls Tryz.prog 32 #[.int .i64 1] w _
    go_enter Tryz.func32, Tryz.ntmps32
    go_wp2
    exact bodyPost_ret (v := .agg #[.func (.func 55) #[] #[]]) (by simp [results, Tryz.results32, go_sem]) rfl ⟨rfl, (((Below.refl _ _).alloc (Nat.le_refl _) _).alloc (by simp) _)⟩
  · show Calls Tryz.prog 32 #[.int .i64 2] w _
    go_enter Tryz.func32, Tryz.ntmps32
    go_wp2
    exact bodyPost_ret (v := .agg #[.func (.func 56) #[] #[]]) (by simp [results, Tryz.results32, go_sem]) rfl ⟨rfl, (((Below.refl _ _).alloc (Nat.le_refl _) _).alloc (by simp) _)⟩
  · show Calls Tryz.prog 32 #[.int .i64 3] w _
    go_enter Tryz.func32, Tryz.ntmps32
    go_wp2
    exact bodyPost_ret (v := .agg #[.func (.func 57) #[] #[]]) (by simp [results, Tryz.results32, go_sem]) rfl ⟨rfl, (((Below.refl _ _).alloc (Nat.le_refl _) _).alloc (by simp) _)⟩
  · show Calls Tryz.prog 32 #[.int .i64 4] w _
    go_enter Tryz.func32, Tryz.ntmps32
    go_wp2
    exact bodyPost_ret (v := .agg #[.func (.func 58) #[] #[]]) (by simp [results, Tryz.results32, go_sem]) rfl ⟨rfl, (((Below.refl _ _).alloc (Nat.le_refl _) _).alloc (by simp) _)⟩
end Go.Proofs.YtaeicgfebeliiaaGreatDoor
namespace Go.Proofs.YtaeicgfebeliiaaGreatDoor
open Go.ChangeShapes Go.WideShapes Go.ChangeAt Go.RowKit
set_option linter.unusedVariables false
attribute [local go_sem] run_store_func

set_option maxHeartbeats 2000000 in
theorem ifilt0 (W : World) (br or cr ba oa ca n : Nat) (zr za zs : List Int) (hn : RowOk n n) (hzr : zr.length = n) (hza : za.length = n) (hr : Lie W br or zr) (ha : Lie W ba oa za) (h8r : ∀ z ∈ zr, 0 ≤ z ∧ z ≤ 255) (h8a : ∀ z ∈ za, 0 ≤ z ∧ z ≤ 255) (hf : IsFilt 0 zr za zs) :
    Calls Tryz.prog 9 #[.int .i64 0, .slice (some ⟨br, or, none⟩) n cr, .slice (some ⟨ba, oa, none⟩) n ca] W fun e w' => ∃ g, e = .returned (.tuple #[.slice (some ⟨g, 0, none⟩) n n, .bool true]) ∧ Nw W w' ∧ W.heap.size ≤ g ∧ At w' g zs := by
  have HK : Hid (Calls Tryz.prog 30 #[.int .i64 0] W fun e w' => e = .returned (.bool true) ∧ w' = W) := igoodKind W 0
  have HG : Hid _ := igoodRows_yes W (some ⟨br, or, none⟩) (some ⟨ba, oa, none⟩) n cr ca hn
  have HO : Hid (Calls Tryz.prog 32 #[.int .i64 0] W fun e w' => e = .returned (.agg #[.func (.func 54) #[] #[]]) ∧ Nw W w') := ifilterOf W 0 (by omega)
  have hn1 : n ≤ 144 := hn.2.2.1
  have hmk := run_make_row' (P := Tryz.prog) 22 5 (.int .u8 0) 1 Tryz.underlying22 Tryz.info5 rfl .i64 .i64 n (by omega) (by omega)
  have hzs : zs.length = n := by rw [hf.1, hzr]
  have hbr := hr.1
  have hba := ha.1
  have HRow : Hid _ := hr
  have HAbo : Hid _ := ha
  have H8r : Hid _ := h8r
  have H8a : Hid _ := h8a
  have HF : Hid _ := hf
  clear hr ha h8r h8a hf hn
  go_enter Tryz.func9, Tryz.ntmps9
  go_wp2_with fail
  refine Calls.mono HK.out ?_
  rintro e w1 ⟨rfl, rfl⟩
  go_wp2_with fail
  refine Calls.mono HG.out ?_
  rintro e w1 ⟨rfl, rfl⟩
  go_wp2_with fail
  refine Calls.mono HO.out ?_
  rintro e w2 ⟨rfl, hnw⟩
  have hsz : w1.heap.size ≤ w2.heap.size := Below.size hnw
  have hb3 : Below w1.heap.size w1 (w2.alloc (.cells #[.func (.func 54) #[] #[]] 57)) := Below.alloc hnw hsz _
  have H3 : Hid (Lay (w2.alloc (.cells #[.func (.func 54) #[] #[]] 57)) ((w2.alloc (.cells #[.func (.func 54) #[] #[]] 57)).alloc (.cells (madeCells #[Value.int .u8 0] n) 5)) (w2.heap.size + 1) zs 0) := Lay.start _ _ _ n zs 5 hzs (by simp) (Below.refl _ _)
  have HR3 : Hid (Lie (w2.alloc (.cells #[.func (.func 54) #[] #[]] 57)) br or zr) := Lie.below HRow.out hb3 hbr
  have HA3 : Hid (Lie (w2.alloc (.cells #[.func (.func 54) #[] #[]] 57)) ba oa za) := Lie.below HAbo.out hb3 hba
  have HF3 : Hid ((w2.alloc (.cells #[.func (.func 54) #[] #[]] 57)).cell? ⟨w2.heap.size, 0, none⟩ = some (.func (.func 54) #[] #[])) := by show _ = _; simp
  have HN3 : Hid (Nw w1 (w2.alloc (.cells #[.func (.func 54) #[] #[]] 57))) := hb3
  clear hnw HK HG HO hb3 HRow HAbo
  go_wp2
  go_loopw [27] (fun i wr => ∃ k : Nat, k ≤ n ∧ i = .int .i64 k ∧ Lay (w2.alloc (.cells #[.func (.func 54) #[] #[]] 57)) wr (w2.heap.size + 1) zs k) (fun i _ => n - (intOf i).toNat)
  case atStart => exact ⟨0, Nat.zero_le _, rfl, H3.out⟩
  case round =>
    obtain ⟨k, hk, rfl, hl⟩ := hrel
    clear hmk H3
    by_cases hlt : k < n
    · have HL : Hid _ := hl
      have hrow : Lie wr br or zr := Lie.below HR3.out hl.1 (by omega)
      have habo : Lie wr ba oa za := Lie.below HA3.out hl.1 (by omega)
      have e0 : wr.cell? ⟨w2.heap.size, 0, none⟩ = some (.func (.func 54) #[] #[]) := (hl.1.cell (p := ⟨w2.heap.size, 0, none⟩) (by show w2.heap.size < _; omega)).trans HF3.out
      have e1 := hrow.2 k (by omega)
      have e2 := habo.2 k (by omega)
      have e3 := hl.2.2.2.1 k (Nat.le_refl _) (by omega)
      have e4 := hl.2.2.2.2 k
      rw [Nat.zero_add] at e3
      have b1 := u8_get zr H8r.out k (by omega)
      have b2 := u8_get za H8a.out k (by omega)
      have b3 := left_bd zr H8r.out k (by omega)
      have b4 := left_bd za H8a.out k (by omega)
      have b5 := guess_bd 0 (left zr k) (za.getD k 0) (left za k) b3 b2 b4
      have HZ : Hid (zs.getD k 0 = (zr.getD k 0 - guess 0 (left zr k) (za.getD k 0) (left za k)) % 256) := HF.out.2 k (by omega)
      have HC1 : Hid (Calls Tryz.prog 33 #[.slice (some ⟨br, or, none⟩) n cr, .int .i64 (k : Int)] wr.drew fun e w' => e = .returned (.int .u8 (left zr k)) ∧ w' = wr.drew) := ileft _ br or n cr k _ (by omega) hlt (hrow.left k (by omega))
      have HC2 : Hid (Calls Tryz.prog 33 #[.slice (some ⟨ba, oa, none⟩) n ca, .int .i64 (k : Int)] wr.drew fun e w' => e = .returned (.int .u8 (left za k)) ∧ w' = wr.drew) := ileft _ ba oa n ca k _ (by omega) hlt (habo.left k (by omega))
      have HC3 : Hid (Calls Tryz.prog 54 #[.int .u8 (left zr k), .int .u8 (za.getD k 0), .int .u8 (left za k)] wr.drew fun e w' => e = .returned (.int .u8 (guess 0 (left zr k) (za.getD k 0) (left za k))) ∧ w' = wr.drew) := ig0 _ _ _ _
      have HST : Hid (Lay (w2.alloc (.cells #[.func (.func 54) #[] #[]] 57)) (wr.drew.setCell ⟨w2.heap.size + 1, k, none⟩ (.int .u8 ((zr.getD k 0 - guess 0 (left zr k) (za.getD k 0) (left za k)) % 256))) (w2.heap.size + 1) zs (k + 1)) := by rw [← HZ.out]; exact Lay.step HL.out (by omega)
      clear hl hrow habo
      generalize guess 0 (left zr k) (za.getD k 0) (left za k) = g at *
      generalize left zr k = lr at *
      generalize left za k = la at *
      generalize zr.getD k 0 = x at *
      generalize za.getD k 0 = y at *
      have hB : w2.heap.size + 1 < wr.heap.size := HL.out.2.1
      clear HZ
      have g0 : w2.heap.size < w2.heap.size + 1 := by omega
      have g1 : br < w2.heap.size + 1 := by omega
      have g2 : ba < w2.heap.size + 1 := by omega
      generalize w2.heap.size + 1 = B at *
      have f0 : ∀ v, (wr.setCell ⟨B, k, none⟩ v).drew.cell? ⟨w2.heap.size, 0, none⟩ = some (.func (.func 54) #[] #[]) := fun v => (World.cell?_setCell_other wr _ _ _ (fun h => by injection h; omega)).trans e0
      have f1 : ∀ v, (wr.setCell ⟨B, k, none⟩ v).drew.cell? ⟨br, or + k, none⟩ = some (.int .u8 x) := fun v => (World.cell?_setCell_other wr _ _ _ (fun h => by injection h; omega)).trans e1
      have f2 : ∀ v, (wr.setCell ⟨B, k, none⟩ v).drew.cell? ⟨ba, oa + k, none⟩ = some (.int .u8 y) := fun v => (World.cell?_setCell_other wr _ _ _ (fun h => by injection h; omega)).trans e2
      have k0 : (0 : Int) ≤ (k : Int) := by omega
      have k1 : (k : Int) < (n : Int) := by omega
      have hw4 : IntKind.u8.wrap (x - g) = (x - g) % 256 := IntKind.wrap_u8 _
      go_wp2
      go_region_held3 (fun w' => w'.cell? ⟨br, or + k, none⟩ = some (.int .u8 x) ∧ w'.cell? ⟨ba, oa + k, none⟩ = some (.int .u8 y) ∧ w'.cell? ⟨w2.heap.size, 0, none⟩ = some (.func (.func 54) #[] #[])) (first | exact ⟨e1, e2, e0⟩ | exact ⟨f1 _, f2 _, f0 _⟩)
        (first
          | (go_at_call_of 33 (Value.slice (some ⟨br, or, none⟩) n cr); refine Calls.mono HC1.out ?_; rintro e w5 ⟨rfl, rfl⟩)
          | (go_at_call_of 33 (Value.slice (some ⟨ba, oa, none⟩) n ca); refine Calls.mono HC2.out ?_; rintro e w5 ⟨rfl, rfl⟩)
          | (go_at_call 54; refine Calls.mono HC3.out ?_; rintro e w5 ⟨rfl, rfl⟩))
      go_wp2
      go_roundw
      case rel => exact ⟨k + 1, by omega, by go_num, HST.out⟩
      case measure => simp [intOf]; omega
    · have e : k = n := by omega
      subst e
      rw [← hzs] at hl
      have HA : Hid (Nw w1 wr ∧ w1.heap.size ≤ w2.heap.size + 1 ∧ At wr (w2.heap.size + 1) zs) := ⟨Below.trans HN3.out (Below.mono hl.1 (by omega)), by omega, Lay.done hl⟩
      clear hl
      go_wp2
      go_ret2
      exact ⟨_, rfl, HA.out⟩

set_option maxHeartbeats 2000000 in
theorem iunf0 (W : World) (br or cr ba oa ca n : Nat) (zr za zs : List Int) (hn : RowOk n n) (hzr : zr.length = n) (hza : za.length = n) (hr : Lie W br or zr) (ha : Lie W ba oa za) (h8r : ∀ z ∈ zr, 0 ≤ z ∧ z ≤ 255) (h8a : ∀ z ∈ za, 0 ≤ z ∧ z ≤ 255) (hf : IsUnf 0 zr za zs) :
    Calls Tryz.prog 11 #[.int .i64 0, .slice (some ⟨br, or, none⟩) n cr, .slice (some ⟨ba, oa, none⟩) n ca] W fun e w' => ∃ g, e = .returned (.tuple #[.slice (some ⟨g, 0, none⟩) n n, .bool true]) ∧ Nw W w' ∧ W.heap.size ≤ g ∧ At w' g zs := by
  have HK : Hid (Calls Tryz.prog 30 #[.int .i64 0] W fun e w' => e = .returned (.bool true) ∧ w' = W) := igoodKind W 0
  have HG : Hid _ := igoodRows_yes W (some ⟨br, or, none⟩) (some ⟨ba, oa, none⟩) n cr ca hn
  have HO : Hid (Calls Tryz.prog 32 #[.int .i64 0] W fun e w' => e = .returned (.agg #[.func (.func 54) #[] #[]]) ∧ Nw W w') := ifilterOf W 0 (by omega)
  have hn1 : n ≤ 144 := hn.2.2.1
  have hmk := run_make_row' (P := Tryz.prog) 22 5 (.int .u8 0) 1 Tryz.underlying22 Tryz.info5 rfl .i64 .i64 n (by omega) (by omega)
  have hzs : zs.length = n := by rw [hf.1, hzr]
  have hbr := hr.1
  have hba := ha.1
  have HRow : Hid _ := hr
  have HAbo : Hid _ := ha
  have H8r : Hid _ := h8r
  have H8a : Hid _ := h8a
  have HF : Hid _ := hf
  clear hr ha h8r h8a hf hn
  go_enter Tryz.func11, Tryz.ntmps11
  go_wp2_with fail
  refine Calls.mono HK.out ?_
  rintro e w1 ⟨rfl, rfl⟩
  go_wp2_with fail
  refine Calls.mono HG.out ?_
  rintro e w1 ⟨rfl, rfl⟩
  go_wp2_with fail
  refine Calls.mono HO.out ?_
  rintro e w2 ⟨rfl, hnw⟩
  have hsz : w1.heap.size ≤ w2.heap.size := Below.size hnw
  have hb3 : Below w1.heap.size w1 (w2.alloc (.cells #[.func (.func 54) #[] #[]] 57)) := Below.alloc hnw hsz _
  have H3 : Hid (Lay (w2.alloc (.cells #[.func (.func 54) #[] #[]] 57)) ((w2.alloc (.cells #[.func (.func 54) #[] #[]] 57)).alloc (.cells (madeCells #[Value.int .u8 0] n) 5)) (w2.heap.size + 1) zs 0) := Lay.start _ _ _ n zs 5 hzs (by simp) (Below.refl _ _)
  have HR3 : Hid (Lie (w2.alloc (.cells #[.func (.func 54) #[] #[]] 57)) br or zr) := Lie.below HRow.out hb3 hbr
  have HA3 : Hid (Lie (w2.alloc (.cells #[.func (.func 54) #[] #[]] 57)) ba oa za) := Lie.below HAbo.out hb3 hba
  have HF3 : Hid ((w2.alloc (.cells #[.func (.func 54) #[] #[]] 57)).cell? ⟨w2.heap.size, 0, none⟩ = some (.func (.func 54) #[] #[])) := by show _ = _; simp
  have HN3 : Hid (Nw w1 (w2.alloc (.cells #[.func (.func 54) #[] #[]] 57))) := hb3
  clear hnw HK HG HO hb3 HRow HAbo
  go_wp2
  go_loopw [27] (fun i wr => ∃ k : Nat, k ≤ n ∧ i = .int .i64 k ∧ Lay (w2.alloc (.cells #[.func (.func 54) #[] #[]] 57)) wr (w2.heap.size + 1) zs k) (fun i _ => n - (intOf i).toNat)
  case atStart => exact ⟨0, Nat.zero_le _, rfl, H3.out⟩
  case round =>
    obtain ⟨k, hk, rfl, hl⟩ := hrel
    clear hmk H3
    by_cases hlt : k < n
    · have HL : Hid _ := hl
      have hrow : Lie wr br or zr := Lie.below HR3.out hl.1 (by omega)
      have habo : Lie wr ba oa za := Lie.below HA3.out hl.1 (by omega)
      have e0 : wr.cell? ⟨w2.heap.size, 0, none⟩ = some (.func (.func 54) #[] #[]) := (hl.1.cell (p := ⟨w2.heap.size, 0, none⟩) (by show w2.heap.size < _; omega)).trans HF3.out
      have e1 := hrow.2 k (by omega)
      have e2 := habo.2 k (by omega)
      have e3 := hl.2.2.2.1 k (Nat.le_refl _) (by omega)
      have e4 := hl.2.2.2.2 k
      rw [Nat.zero_add] at e3
      have b1 := u8_get zr H8r.out k (by omega)
      have b2 := u8_get za H8a.out k (by omega)
      have b3 := IsUnf.bd HF.out k (by omega)
      have b4 := left_bd za H8a.out k (by omega)
      have b5 := guess_bd 0 (left zs k) (za.getD k 0) (left za k) b3 b2 b4
      have HZ : Hid (zs.getD k 0 = (zr.getD k 0 + guess 0 (left zs k) (za.getD k 0) (left za k)) % 256) := HF.out.2 k (by omega)
      have HC1 : Hid (Calls Tryz.prog 33 #[.slice (some ⟨w2.heap.size + 1, 0, none⟩) n n, .int .i64 (k : Int)] wr.drew fun e w' => e = .returned (.int .u8 (left zs k)) ∧ w' = wr.drew) := ileft _ _ 0 n n k _ (by omega) hlt (Lay.left HL.out k (by omega) (Nat.le_refl _))
      have HC2 : Hid (Calls Tryz.prog 33 #[.slice (some ⟨ba, oa, none⟩) n ca, .int .i64 (k : Int)] wr.drew fun e w' => e = .returned (.int .u8 (left za k)) ∧ w' = wr.drew) := ileft _ ba oa n ca k _ (by omega) hlt (habo.left k (by omega))
      have HC3 : Hid (Calls Tryz.prog 54 #[.int .u8 (left zs k), .int .u8 (za.getD k 0), .int .u8 (left za k)] wr.drew fun e w' => e = .returned (.int .u8 (guess 0 (left zs k) (za.getD k 0) (left za k))) ∧ w' = wr.drew) := ig0 _ _ _ _
      have HST : Hid (Lay (w2.alloc (.cells #[.func (.func 54) #[] #[]] 57)) (wr.drew.setCell ⟨w2.heap.size + 1, k, none⟩ (.int .u8 ((zr.getD k 0 + guess 0 (left zs k) (za.getD k 0) (left za k)) % 256))) (w2.heap.size + 1) zs (k + 1)) := by rw [← HZ.out]; exact Lay.step HL.out (by omega)
      clear hl hrow habo
      generalize guess 0 (left zs k) (za.getD k 0) (left za k) = g at *
      generalize left zs k = lr at *
      generalize left za k = la at *
      generalize zr.getD k 0 = x at *
      generalize za.getD k 0 = y at *
      have hB : w2.heap.size + 1 < wr.heap.size := HL.out.2.1
      clear HZ
      have g0 : w2.heap.size < w2.heap.size + 1 := by omega
      have g1 : br < w2.heap.size + 1 := by omega
      have g2 : ba < w2.heap.size + 1 := by omega
      generalize w2.heap.size + 1 = B at *
      have f0 : ∀ v, (wr.setCell ⟨B, k, none⟩ v).drew.cell? ⟨w2.heap.size, 0, none⟩ = some (.func (.func 54) #[] #[]) := fun v => (World.cell?_setCell_other wr _ _ _ (fun h => by injection h; omega)).trans e0
      have f1 : ∀ v, (wr.setCell ⟨B, k, none⟩ v).drew.cell? ⟨br, or + k, none⟩ = some (.int .u8 x) := fun v => (World.cell?_setCell_other wr _ _ _ (fun h => by injection h; omega)).trans e1
      have f2 : ∀ v, (wr.setCell ⟨B, k, none⟩ v).drew.cell? ⟨ba, oa + k, none⟩ = some (.int .u8 y) := fun v => (World.cell?_setCell_other wr _ _ _ (fun h => by injection h; omega)).trans e2
      have k0 : (0 : Int) ≤ (k : Int) := by omega
      have k1 : (k : Int) < (n : Int) := by omega
      have hw4 : IntKind.u8.wrap (x + g) = (x + g) % 256 := IntKind.wrap_u8 _
      go_wp2
      go_region_held3 (fun w' => w'.cell? ⟨br, or + k, none⟩ = some (.int .u8 x) ∧ w'.cell? ⟨ba, oa + k, none⟩ = some (.int .u8 y) ∧ w'.cell? ⟨w2.heap.size, 0, none⟩ = some (.func (.func 54) #[] #[])) (first | exact ⟨e1, e2, e0⟩ | exact ⟨f1 _, f2 _, f0 _⟩)
        (first
          | (go_at_call_of 33 (Value.slice (some ⟨B, 0, none⟩) n n); refine Calls.mono HC1.out ?_; rintro e w5 ⟨rfl, rfl⟩)
          | (go_at_call_of 33 (Value.slice (some ⟨ba, oa, none⟩) n ca); refine Calls.mono HC2.out ?_; rintro e w5 ⟨rfl, rfl⟩)
          | (go_at_call 54; refine Calls.mono HC3.out ?_; rintro e w5 ⟨rfl, rfl⟩))
      go_wp2
      go_roundw
      case rel => exact ⟨k + 1, by omega, by go_num, HST.out⟩
      case measure => simp [intOf]; omega
    · have e : k = n := by omega
      subst e
      rw [← hzs] at hl
      have HA : Hid (Nw w1 wr ∧ w1.heap.size ≤ w2.heap.size + 1 ∧ At wr (w2.heap.size + 1) zs) := ⟨Below.trans HN3.out (Below.mono hl.1 (by omega)), by omega, Lay.done hl⟩
      clear hl
      go_wp2
      go_ret2
      exact ⟨_, rfl, HA.out⟩
end Go.Proofs.YtaeicgfebeliiaaGreatDoor
