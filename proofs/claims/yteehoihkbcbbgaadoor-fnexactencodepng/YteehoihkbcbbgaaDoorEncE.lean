/-
  What the program's EncodePng answers; each theorem names its conditions.
-/
import Derived.Test.YteehoihkbcbbgaaDoorEncP
namespace Go.Proofs.YteehoihkbcbbgaaDoor
open Go.ChangeShapes Go.WideShapes Go.ChangeAt Go.RowKit
set_option linter.unusedVariables false

theorem At.below {w w' : World} {b B : Nat} {zs : List Int} (h : At w b zs) (k : Below B w w') (hb : b < B) : At w' b zs :=
  ⟨Nat.lt_of_lt_of_le h.1 (Below.size k), fun i hi => (Below.cell k (p := ⟨b, 0 + i, none⟩) hb).trans (h.2.1 i hi), fun o => (Below.frozen k (p := ⟨b, o, none⟩) hb).trans (h.2.2 o)⟩

set_option maxHeartbeats 8000000 in
theorem iencode (W : World) (wide high b c : Nat) (zp : List Int) (ds : List Nat) (J : Nat) (hw : 1 ≤ wide ∧ wide ≤ 36) (hh : 1 ≤ high ∧ high ≤ 36) (hz : zp.length = high * (4 * wide)) (hc : zp.length ≤ c) (hcm : c ≤ 9223372036854775807) (h8 : ∀ z ∈ zp, 0 ≤ z ∧ z ≤ 255) (ha : At W b zp) (ht : Tabs W)
    (hds : rowsN zp (4 * wide) high = ints ds) (hd8 : ∀ d ∈ ds, d < 256) (hdl : ds.length ≤ 6000) (hd0 : 0 < ds.length) (hJ : Ends (ints ds) J) (hp8 : ∀ d ∈ bestL ds J, d < 256) :
    Calls Tryd.prog 14 #[.int .i64 (wide : Int), .int .i64 (high : Int), .slice (some ⟨b, 0, none⟩) zp.length c] W fun e w' => ∃ v, e = .returned (.tuple #[v, .bool true]) ∧ Nw W w' ∧ Own w' W.heap.size v (png wide high (pdata ds J)) := by
  have h4 : 4 ≤ W.heap.size := ht.2.2.2.2
  have S1 : Hid _ := igoodSide W (wide : Int)
  have e1 : decide (1 ≤ (wide : Int) ∧ (wide : Int) ≤ 36) = true := by simp; omega
  rw [e1] at S1
  have S2 : Hid _ := igoodSide W (high : Int)
  have e2 : decide (1 ≤ (high : Int) ∧ (high : Int) ≤ 36) = true := by simp; omega
  rw [e2] at S2
  have e3 : 4 * (wide : Int) * (high : Int) = (zp.length : Int) := by rw [hz, Nat.mul_comm]; simp
  have hzl : zp.length ≤ 5184 := by rw [hz]; calc high * (4 * wide) ≤ 36 * 144 := Nat.mul_le_mul hh.2 (by omega)
       _ = 5184 := rfl
  have e4 : ((zp.length : Int) != (zp.length : Int)) = false := by simp
  have hbW := ha.1
  have HL : Hid (Lie W b 0 zp) := At.lie ha
  have FR : Hid (∀ w', Below W.heap.size W w' → Calls Tryd.prog 40 #[.int .i64 (wide : Int), .int .i64 (high : Int), .slice (some ⟨b, 0, none⟩) zp.length c] w' fun e w2 => ∃ v, e = .returned v ∧ Nw w' w2 ∧ Own w2 w'.heap.size v (ints ds)) := by
    intro w' h
    rw [← hds]
    exact ifilterRows w' b 0 c wide high zp hw hh hz hc hcm h8 (Lie.below HL.out h hbW)
  have PR : Hid (∀ w' g c2, Below W.heap.size W w' → At w' g (ints ds) → Calls Tryd.prog 39 #[.slice (some ⟨g, 0, none⟩) (ints ds).length c2] w' fun e w2 => ∃ v, e = .returned v ∧ Nw w' w2 ∧ Own w2 w'.heap.size v (pdata ds J)) := by
    intro w' g c2 h hA
    rw [ints_len]
    exact ipackRows w' g c2 ds J hJ (ht.below h h4) hdl hd8 hA
  have hpl : (pdata ds J).length ≤ 200000 ∧ 6 ≤ (pdata ds J).length := by
    have h1 := bestL_len ds J hJ hdl
    have h2 : (pdata ds J).length = (bestL ds J).length + 6 := by simp [pdata, ints_len, four]
    omega
  have P8 : Hid _ := pdata_u8 ds J hp8
  have D8 : Hid _ := head_u8 wide high hw.2 hh.2
  have HIL : Hid ((ints ds).length = ds.length) := ints_len ds
  clear hz h8 ha ht hds hd8 hJ hp8 e1 e2 h4
  generalize pdata ds J = pd at *
  go_enter Tryd.func14, Tryd.ntmps14
  go_wp2_with fail
  refine Calls.mono S1.out ?_
  rintro e W ⟨rfl, rfl⟩
  go_wp2_with fail
  refine Calls.mono S2.out ?_
  rintro e W ⟨rfl, rfl⟩
  clear S1 S2
  have N1 : Hid _ := iappNum W W.heap.size (.slice none 0 0) [] (wide : Int) (by omega) (by simp) (Nat.le_refl _) (Own.nil _ _)
  go_wp2_with fail
  refine Calls.mono N1.out ?_
  rintro e w1 ⟨v1, rfl, h1, h2⟩
  have O1 : Hid (Own w1 W.heap.size v1 (four (wide : Int))) := h1
  have B1 : Hid (Below W.heap.size W w1) := Ext.below h2 (fun q hq => by simp [Value.ownBlock] at hq) (Nat.le_refl _)
  have z1 : W.heap.size ≤ w1.heap.size := Below.size B1.out
  clear h1 h2 N1
  have N2 : Hid _ := iappNum w1 W.heap.size v1 (four (wide : Int)) (high : Int) (by omega) (by simp [four]) z1 O1.out
  go_wp2_with fail
  refine Calls.mono N2.out ?_
  rintro e w2 ⟨v2, rfl, h1, h2⟩
  have O2 : Hid (Own w2 W.heap.size v2 (four (wide : Int) ++ four (high : Int))) := h1
  have B2 : Hid (Below W.heap.size W w2) := Below.trans B1.out (Ext.below h2 (fun q hq => (Own.lt O1.out q hq).1) z1)
  have z2 : W.heap.size ≤ w2.heap.size := Below.size B2.out
  clear h1 h2 N2 O1 B1
  go_wp2_with fail
  refine Calls.mono (iheadTail w2) ?_
  rintro e w3 ⟨rfl, h1, h2⟩
  have L3 : Hid (Lie w3 w2.heap.size 0 [8, 6, 0, 0, 0]) := by
    rcases h2.form with ⟨h, _⟩ | ⟨g, cc, h, _, _, h5⟩
    · cases h
    · injection h with e1; injection e1 with e1; injection e1 with e1; subst e1; exact At.lie h5
  have O3 : Hid (Own w3 W.heap.size v2 (four (wide : Int) ++ four (high : Int))) := Own.nw O2.out h1
  have B3 : Hid (Below W.heap.size W w3) := Below.trans B2.out (Below.mono h1 z2)
  have z3 : W.heap.size ≤ w3.heap.size := Below.size B3.out
  clear h1 h2 O2 B2
  go_wp2_with (first
    | (at_builtin; (refine wp_app _ rfl _ _ rfl W.heap.size v2 (four (wide : Int) ++ four (high : Int)) [8, 6, 0, 0, 0] rfl O3.out w2.heap.size 0 5 5 rfl rfl L3.out ?c1 z3 ?_))
    | go_in)
  case c1 => simp [four]
  intro v4 w4 h1 h2
  have O4 : Hid (Own w4 W.heap.size v4 (head13 wide high)) := h1
  have B4 : Hid (Below W.heap.size W w4) := Below.trans B3.out (Ext.below h2 (fun q hq => (Own.lt O3.out q hq).1) z3)
  have z4 : W.heap.size ≤ w4.heap.size := Below.size B4.out
  clear h1 h2 O3 B3 L3
  obtain ⟨g4, c4, rfl, q1, q2, q3, q4, q5⟩ := Own.some O4.out (by rw [head_len]; omega)
  have A4 : Hid (At w4 g4 (head13 wide high)) := q5
  clear q5 O4
  unfold maxLen at q4
  go_wp2_with fail
  refine Calls.mono (ifileMark w4) ?_
  rintro e w5 ⟨rfl, h1, h2⟩
  have O5 : Hid (Own w5 w4.heap.size (.slice (some ⟨w4.heap.size, 0, none⟩) 8 8) mark8) := h2
  have A5 : Hid (At w5 g4 (head13 wide high)) := At.nw A4.out h1
  have B5 : Hid (Below W.heap.size W w5) := Below.trans B4.out (Below.mono h1 z4)
  have z5 : w4.heap.size ≤ w5.heap.size := Below.size h1
  clear h1 h2 A4 B4
  have C1 : Hid _ := ichunk w5 w4.heap.size (.slice (some ⟨w4.heap.size, 0, none⟩) 8 8) mark8 sIHDR (some ⟨g4, 0, none⟩) c4 (head13 wide high) (by decide) (by decide) (by simp [mark8]) D8.out (by rw [head_len]; omega) (by simp) z5 O5.out (Or.inr ⟨g4, 0, rfl, At.lie A5.out, by simp [Value.ownBlock]; omega⟩)
  go_wp2_with fail
  refine Calls.mono C1.out ?_
  rintro e w6 ⟨v6, rfl, h1, h2⟩
  have hcl := chunk_len (strInts sIHDR) (head13 wide high)
  have hzA : (mark8 ++ chunk (strInts sIHDR) (head13 wide high)).length ≤ 100 := by rw [List.length_append, hcl, head_len]; decide
  clear hcl
  have HPN : Hid (png wide high pd = mark8 ++ chunk (strInts sIHDR) (head13 wide high) ++ chunk (strInts sIDAT) pd ++ chunk (strInts sIEND) []) := rfl
  have O6 : Hid (Own w6 w4.heap.size v6 (mark8 ++ chunk (strInts sIHDR) (head13 wide high))) := h1
  have B6 : Hid (Below W.heap.size W w6) := Below.trans B5.out (Ext.below h2 (fun q hq => Nat.le_trans z4 (Own.lt O5.out q hq).1) (by omega))
  have z6 : w5.heap.size ≤ w6.heap.size := Ext.size h2
  clear h1 h2 O5 A5 B5 C1 D8
  generalize mark8 ++ chunk (strInts sIHDR) (head13 wide high) = zA at *
  go_wp2_with fail
  refine Calls.mono (FR.out _ B6.out) ?_
  rintro e w7 ⟨v7, rfl, h1, h2⟩
  obtain ⟨g7, c7, rfl, r1, r2, r3, r4, r5⟩ := Own.some h2 (by rw [HIL.out]; exact hd0)
  have A7 : Hid (At w7 g7 (ints ds)) := r5
  have O7 : Hid (Own w7 w4.heap.size v6 zA) := Own.nw O6.out h1
  have B7 : Hid (Below W.heap.size W w7) := Below.trans B6.out (Below.mono h1 (by omega))
  have z7 : w6.heap.size ≤ w7.heap.size := Below.size h1
  clear h1 h2 r5 FR B6
  unfold maxLen at r4
  go_wp2_with fail
  refine Calls.mono (PR.out _ _ _ B7.out A7.out) ?_
  rintro e w8 ⟨v8, rfl, h1, h2⟩
  obtain ⟨g8, c8, rfl, s1, s2, s3, s4, s5⟩ := Own.some h2 (by omega)
  have A8 : Hid (At w8 g8 pd) := s5
  have O8 : Hid (Own w8 w4.heap.size v6 zA) := Own.nw O7.out h1
  have B8 : Hid (Below W.heap.size W w8) := Below.trans B7.out (Below.mono h1 (by omega))
  have z8 : w7.heap.size ≤ w8.heap.size := Below.size h1
  have hne : v6.ownBlock ≠ some g8 := by
    intro e
    have := (Own.lt O6.out g8 e).2
    omega
  clear h1 h2 s5 PR B7 A7 O7 O6
  unfold maxLen at s4
  have C2 : Hid _ := ichunk w8 w4.heap.size v6 zA sIDAT (some ⟨g8, 0, none⟩) c8 pd (by decide) (by decide) (by omega) P8.out (by omega) (by simp) (by omega) O8.out (Or.inr ⟨g8, 0, rfl, At.lie A8.out, hne⟩)
  go_wp2_with fail
  refine Calls.mono C2.out ?_
  rintro e w9 ⟨v9, rfl, h1, h2⟩
  have O9 : Hid (Own w9 w4.heap.size v9 (zA ++ chunk (strInts sIDAT) pd)) := h1
  have B9 : Hid (Below W.heap.size W w9) := Below.trans B8.out (Ext.below h2 (fun q hq => Nat.le_trans z4 (Own.lt O8.out q hq).1) (by omega))
  have z9 : w8.heap.size ≤ w9.heap.size := Ext.size h2
  have hl9 : (zA ++ chunk (strInts sIDAT) pd).length ≤ 300000 := by
    have e0 := chunk_len (strInts sIDAT) pd
    have e1 : (strInts sIDAT).length = 4 := rfl
    rw [List.length_append]
    omega
  clear h1 h2 B8 O8 C2 P8 A8 hne
  generalize zA ++ chunk (strInts sIDAT) pd = zB at *
  have C3 : Hid (Calls Tryd.prog 37 #[v9, .string sIEND, .slice none 0 0] w9 fun e w' => ∃ v', e = .returned v' ∧ Own w' w4.heap.size v' (zB ++ chunk (strInts sIEND) []) ∧ Ext v9 v' w9 w') := ichunk w9 w4.heap.size v9 zB sIEND none 0 [] (by decide) (by decide) (by omega) (by simp) (by simp) (by simp) (by omega) O9.out (Or.inl ⟨rfl, rfl⟩)
  go_wp2_with fail
  refine Calls.mono C3.out ?_
  rintro e w10 ⟨v10, rfl, h1, h2⟩
  have HR : Hid (Nw W w10 ∧ Own w10 W.heap.size v10 (png wide high pd)) := by
    refine ⟨Below.trans B9.out (Ext.below h2 (fun q hq => Nat.le_trans z4 (Own.lt O9.out q hq).1) (by omega)), ?_⟩
    rw [HPN.out]
    exact Own.base h1 z4
  clear h1 h2
  go_wp2
  go_ret2
  exact ⟨_, rfl, HR.out⟩
end Go.Proofs.YteehoihkbcbbgaaDoor
