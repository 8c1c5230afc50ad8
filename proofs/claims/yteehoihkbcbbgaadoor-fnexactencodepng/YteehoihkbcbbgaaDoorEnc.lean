/-
  What the program's helpers of EncodePng do: numbers, chunks, marks; each theorem names its conditions.
-/
import Derived.Test.YteehoihkbcbbgaaDoorOwn
import Derived.Test.YteehoihkbcbbgaaDoorCrc
namespace Go.Proofs.YteehoihkbcbbgaaDoor
open Go.ChangeShapes Go.WideShapes Go.ChangeAt Go.RowKit
set_option linter.unusedVariables false

def four (n : Int) : List Int := [n / 16777216, n / 65536 % 256, n / 256 % 256, n % 256]
theorem four_len (n : Int) : (four n).length = 4 := rfl
theorem four_u8 (n : Int) (h : 0 ≤ n ∧ n < 4294967296) : ∀ z ∈ four n, 0 ≤ z ∧ z ≤ 255 := by
  intro z hz
  simp [four] at hz
  rcases hz with rfl | rfl | rfl | rfl <;> omega
theorem nw_alloc (w : World) (o : Obj) : Nw w (w.alloc o) := (Below.refl _ _).alloc (Nat.le_refl _) _
theorem lit_lie (w : World) (cs : Array Value) (t : TypeId) (zs : List Int) (hc : cs.toList = vals zs) : Lie (w.alloc (.cells cs t)) w.heap.size 0 zs := by
  refine ⟨by simp, fun i hi => ?_⟩
  have e : cs[i]? = some (.int .u8 (zs.getD i 0)) := by
    rw [← Array.getElem?_toList, hc]; simp [vals, hi]
  simp [e]

set_option maxHeartbeats 1000000 in
theorem iappNum (W : World) (B : Nat) (v : Value) (zs : List Int) (n : Int) (hn : 0 ≤ n ∧ n < 4294967296) (hl : zs.length ≤ 5000000) (hB : B ≤ W.heap.size) (hown : Own W B v zs) :
    Calls Tryd.prog 35 #[v, .int .u32 n] W fun e w' => ∃ v', e = .returned v' ∧ Own w' B v' (zs ++ four n) ∧ Ext v v' W w' := by
  have HO : Hid _ := hown
  clear hown
  go_enter Tryd.func35, Tryd.ntmps35
  go_wp2_with (first
    | (at_builtin; (refine wp_app _ rfl _ _ rfl B v zs (four n) rfl (Own.nw HO.out (nw_alloc _ _)) W.heap.size 0 4 4 rfl rfl ?c1 ?c2 ?c3 ?_))
    | go_in)
  case c1 => exact lit_lie _ _ _ _ rfl
  case c2 => omega
  case c3 => simp; omega
  intro v' w1 h1 h2
  have H1 : Hid (Own w1 B v' (zs ++ four n)) := h1
  have H2 : Hid (Ext v v' W w1) := Nw.ext (nw_alloc _ _) h2
  clear h1 h2
  go_wp2
  go_ret
  exact ⟨_, rfl, H1.out, H2.out⟩

theorem iheadTail (W : World) : Calls Tryd.prog 36 #[] W fun e w' => e = .returned (.slice (some ⟨W.heap.size, 0, none⟩) 5 5) ∧ Nw W w' ∧ Own w' W.heap.size (.slice (some ⟨W.heap.size, 0, none⟩) 5 5) [8, 6, 0, 0, 0] := by
  have H : Hid (Own (W.alloc (.cells #[.int .u8 8, .int .u8 6, .int .u8 0, .int .u8 0, .int .u8 0] 5)) W.heap.size (.slice (some ⟨W.heap.size, 0, none⟩) 5 5) [8, 6, 0, 0, 0]) := Own.lit W _ _ 5 _ rfl rfl (Nat.le_refl _) (by omega)
  go_enter Tryd.func36, Tryd.ntmps36
  go_wp2
  go_ret
  exact ⟨rfl, nw_alloc _ _, H.out⟩
theorem ifileMark (W : World) : Calls Tryd.prog 38 #[] W fun e w' => e = .returned (.slice (some ⟨W.heap.size, 0, none⟩) 8 8) ∧ Nw W w' ∧ Own w' W.heap.size (.slice (some ⟨W.heap.size, 0, none⟩) 8 8) [137, 80, 78, 71, 13, 10, 26, 10] := by
  have H : Hid (Own (W.alloc (.cells #[.int .u8 137, .int .u8 80, .int .u8 78, .int .u8 71, .int .u8 13, .int .u8 10, .int .u8 26, .int .u8 10] 5)) W.heap.size (.slice (some ⟨W.heap.size, 0, none⟩) 8 8) [137, 80, 78, 71, 13, 10, 26, 10]) := Own.lit W _ _ 8 _ rfl rfl (Nat.le_refl _) (by omega)
  go_enter Tryd.func38, Tryd.ntmps38
  go_wp2
  go_ret
  exact ⟨rfl, nw_alloc _ _, H.out⟩

/-- A chunk: how many data, the name, the data, the sum of both. -/
def chunk (s : List Int) (ds : List Int) : List Int := four (ds.length : Int) ++ s ++ ds ++ four (crc (s ++ ds))
theorem chunk_len (s ds : List Int) : (chunk s ds).length = s.length + ds.length + 8 := by simp [chunk, four]; omega
/-- What is appended to v: nothing, or the bytes ds in another block. -/
def Data (w : World) (v : Value) (ad : Option Addr) (ds : List Int) : Prop := (ad = none ∧ ds = []) ∨ ∃ b off, ad = some ⟨b, off, none⟩ ∧ Lie w b off ds ∧ v.ownBlock ≠ some b
theorem Data.ext {w w' : World} {v v' : Value} {ad : Option Addr} {ds : List Int} (h : Data w v ad ds) (k : Ext v v' w w') : Data w' v' ad ds := by
  rcases h with h | ⟨b, off, h1, h2, h3⟩
  · exact Or.inl h
  · exact Or.inr ⟨b, off, h1, k.lie h2 h3, k.apart h2.1 h3⟩
/-- Data are appended, or nothing. -/
theorem wp_data (w : World) {ops : Array Oper} {rest : List Oper} {o : Oper} {a : Act} {Q : Exit → Act → World → Prop} (hgd : o.guard = none) (s x : Operand)
    (ho : o.op = .call { callee := .builtin .append, args := #[s, x], argTypes := #[22, 22] })
    (B : Nat) (g n c0 : Nat) (zs ds : List Int) (hs : a.eval s = .slice (some ⟨g, 0, none⟩) n c0) (hn : n ≤ c0) (hown : Own w B (.slice (some ⟨g, 0, none⟩) n c0) zs) (ad : Option Addr) (m c : Nat) (hc : ad = none → c = 0) (hx : a.eval x = .slice ad m c) (hm : ds.length = m) (hd : Data w (.slice (some ⟨g, 0, none⟩) n c0) ad ds)
    (h63 : zs.length + m ≤ 10000000) (hB : B ≤ w.heap.size)
    (h : ∀ v' w', Own w' B v' (zs ++ ds) → Ext (.slice (some ⟨g, 0, none⟩) n c0) v' w w' → wpList Tryd.prog ops Q rest (a.put o.dst v') w') : wpList Tryd.prog ops Q (o :: rest) a w := by
  rcases hd with ⟨rfl, rfl⟩ | ⟨b, off, rfl, h2, h3⟩
  · subst hm
    obtain ⟨i0, hi, hz0, hz1, hz2⟩ := info_parts Tryd.info5
    have hr := run_append_nothing (P := Tryd.prog) w 22 22 o.type 5 i0 Tryd.underlying22 hi (some ⟨g, 0, none⟩) n c0 hn (.slice none 0 c) (Src.ofNil w Tryd.underlying22 c)
    refine wpList_plain hgd fun K hK => ?_
    unfold Oper.wp execOp
    simp only [List.length_nil] at hx
    simp only [ho, resolve, invoke, builtin, Sem.run_bind, Sem.run_pure, Result.andThen_ok, List.map_toArray, List.map_cons, List.map_nil, hs, hx, hr]
    exact hK _ _ (h _ _ (by rw [List.append_nil]; exact hown) (Ext.refl _ _))
  · exact wp_app w hgd s x ho B _ zs ds hs hown b off m c hx hm h2 h63 hB h
theorem row_sub {w : World} {g : Nat} {xs ys : List Int} (h : At w g (xs ++ ys)) : Row .u8 w (some ⟨g, xs.length, none⟩) ys := by
  refine Or.inr ⟨g, xs.length, rfl, h.1, fun i hi => ?_⟩
  have := h.2.1 (xs.length + i) (by simp; omega)
  rw [Nat.zero_add] at this
  rw [this]
  congr 2
  simp only [List.getD_eq_getElem?_getD]
  rw [List.getElem?_append_right (by omega)]
  simp

set_option maxHeartbeats 4000000 in
theorem ichunk (W : World) (B : Nat) (v : Value) (zs : List Int) (s : ByteArray) (ad : Option Addr) (c : Nat) (ds : List Int) (hs : s.size ≤ 100) (hs0 : 0 < s.size) (hl : zs.length ≤ 1000000) (hd8 : ∀ z ∈ ds, 0 ≤ z ∧ z ≤ 255) (hdl : ds.length ≤ 1000000) (hc : ad = none → c = 0) (hB : B ≤ W.heap.size) (hown : Own W B v zs) (hd : Data W v ad ds) :
    Calls Tryd.prog 37 #[v, .string s, .slice ad ds.length c] W fun e w' => ∃ v', e = .returned v' ∧ Own w' B v' (zs ++ chunk (strInts s) ds) ∧ Ext v v' W w' := by
  have H1 : Hid _ := iappNum W B v zs (ds.length : Int) (by omega) (by omega) hB hown
  have HD : Hid _ := hd
  have H8 : Hid (∀ z ∈ strInts s ++ ds, 0 ≤ z ∧ z ≤ 255) := by
    intro z hz
    rcases List.mem_append.1 hz with hz | hz
    · simp [strInts] at hz
      obtain ⟨b, _, rfl⟩ := hz
      have := b.toNat_lt
      omega
    · exact hd8 z hz
  have HSL : Hid _ := strInts_len s
  clear hown hd hd8
  go_enter Tryd.func37, Tryd.ntmps37
  go_wp2_with fail
  refine Calls.mono H1.out ?_
  rintro e w1 ⟨v1, rfl, h1, h2⟩
  have HF : Hid ((zs ++ four (ds.length : Int)).length = zs.length + 4) := by show _ = _; simp [four]
  have hf1 : (zs ++ four (ds.length : Int)).length ≤ zs.length + 4 := Nat.le_of_eq HF.out
  have hf2 : 4 ≤ (zs ++ four (ds.length : Int)).length := by rw [HF.out]; omega
  obtain ⟨g1, c1, rfl, hg1, hg2, hg3, hg4, hg5⟩ := h1.some (by omega)
  have O1 : Hid (Own w1 B (.slice (some ⟨g1, 0, none⟩) (zs ++ four (ds.length : Int)).length c1) (zs ++ four (ds.length : Int))) := h1
  have E1 : Hid (Ext v (.slice (some ⟨g1, 0, none⟩) (zs ++ four (ds.length : Int)).length c1) W w1) := h2
  have D1 : Hid (Data w1 (.slice (some ⟨g1, 0, none⟩) (zs ++ four (ds.length : Int)).length c1) ad ds) := Data.ext HD.out h2
  have hB1 : B ≤ w1.heap.size := Nat.le_trans hB h2.size
  clear h1 h2 hg5 H1 HD
  unfold maxLen at hg4
  generalize hz1 : zs ++ four (ds.length : Int) = z1 at *
  have HZ1 : Hid _ := hz1
  clear hz1
  go_wp2_with (first
    | (at_builtin; (refine wp_str _ rfl _ _ rfl B g1 _ c1 z1 rfl O1.out s rfl ?c1 hB1 ?_))
    | go_in)
  case c1 => omega
  intro v2 w2 h1 h2
  have hl2 : (z1 ++ strInts s).length ≤ zs.length + 4 + s.size ∧ z1.length < (z1 ++ strInts s).length := by rw [List.length_append, HSL.out]; omega
  obtain ⟨g2, c2, rfl, hh1, hh2, hh3, hh4, hh5⟩ := h1.some (by omega)
  have O2 : Hid _ := h1
  have E2 : Hid _ := Ext.trans E1.out h2
  have D2 : Hid _ := Data.ext D1.out h2
  have hB2 : B ≤ w2.heap.size := Nat.le_trans hB1 h2.size
  clear h1 h2 hh5 O1 E1 D1
  unfold maxLen at hh4
  generalize hz2 : z1 ++ strInts s = z2 at *
  have HZ2 : Hid _ := hz2
  clear hz2
  go_wp2_with (first
    | (at_builtin; (refine wp_data _ rfl _ _ rfl B g2 _ c2 z2 ds rfl hh3 O2.out ad ds.length c hc rfl rfl D2.out ?c1 hB2 ?_))
    | go_in)
  case c1 => omega
  intro v3 w3 h1 h2
  have hl3 : (z2 ++ ds).length ≤ zs.length + 4 + s.size + ds.length ∧ z1.length < (z2 ++ ds).length := by have e := @List.length_append _ z2 ds; omega
  obtain ⟨g3, c3, rfl, hk1, hk2, hk3, hk4, hk5⟩ := h1.some (by omega)
  have O3 : Hid _ := h1
  have E3 : Hid _ := Ext.trans E2.out h2
  have hB3 : B ≤ w3.heap.size := Nat.le_trans hB2 h2.size
  have R3 : Hid (Row .u8 w3 (some ⟨g3, z1.length, none⟩) (strInts s ++ ds)) := row_sub (xs := z1) (ys := strInts s ++ ds) (by rw [← List.append_assoc, HZ2.out]; exact hk5)
  clear h1 h2 hk5 O2 E2 D2
  unfold maxLen at hk4
  have HL3 : Hid ((z2 ++ ds).length - z1.length = (strInts s ++ ds).length) := by show _ = _; rw [← HZ2.out]; simp
  have HL4 : Hid ((strInts s ++ ds).length ≤ 1048576) := by show _ ≤ _; rw [List.length_append, HSL.out]; omega
  have HE : Hid (z2 ++ ds = zs ++ (four (ds.length : Int) ++ strInts s ++ ds)) := by show _ = _; rw [← HZ2.out, ← HZ1.out]; simp
  have hc3 : z1.length < c3 := by omega
  generalize (z2 ++ ds) = z3 at *
  have HC : Hid (Calls Tryd.prog 68 #[.slice (some ⟨g3, z1.length, none⟩) (z3.length - z1.length) (c3 - z1.length)] w3 fun e w' => e = .returned (.int .u32 (crc (strInts s ++ ds))) ∧ w' = w3) := by
    rw [HL3.out]; exact icrc w3 _ _ _ R3.out HL4.out H8.out
  have hcb := crc_bd (strInts s ++ ds)
  have HN : Hid _ := iappNum w3 B _ z3 (crc (strInts s ++ ds)) hcb (by omega) hB3 O3.out
  have HR : Hid (z3 ++ four (crc (strInts s ++ ds)) = zs ++ chunk (strInts s) ds) := by show _ = _; rw [HE.out]; simp [chunk]
  generalize crc (strInts s ++ ds) = q at *
  clear HL3 HL4 R3 H8 HE O3
  go_wp2_with fail
  refine Calls.mono HC.out ?_
  rintro e w3 ⟨rfl, rfl⟩
  go_wp2_with fail
  refine Calls.mono HN.out ?_
  rintro e w4 ⟨v4, rfl, h1, h2⟩
  have O4 : Hid (Own w4 B v4 (zs ++ chunk (strInts s) ds)) := by rw [← HR.out]; exact h1
  have E4 : Hid (Ext v v4 W w4) := Ext.trans E3.out h2
  clear h1 h2 HC HN HR E3
  go_wp2
  go_ret
  exact ⟨_, rfl, O4.out, E4.out⟩
end Go.Proofs.YteehoihkbcbbgaaDoor
