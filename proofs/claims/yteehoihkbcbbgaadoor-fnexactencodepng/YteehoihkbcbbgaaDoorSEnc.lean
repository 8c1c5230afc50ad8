/-
  What the specification's helpers of EncodePng do: numbers, chunks, marks; each theorem names its conditions.
-/
import Derived.Test.YteehoihkbcbbgaaDoorEncP
import Derived.Test.YteehoihkbcbbgaaDoorConv
namespace Go.Proofs.YteehoihkbcbbgaaDoor
open Go.ChangeShapes Go.WideShapes Go.ChangeAt Go.RowKit
set_option linter.unusedVariables false

theorem own_at0 {w : World} {B g n c : Nat} {zs : List Int} (h : Own w B (.slice (some ⟨g, 0, none⟩) n c) zs) : At w g zs := by
  rcases h.form with ⟨h, _⟩ | ⟨g', cc, h, _, _, h5⟩
  · cases h
  · injection h with e1; injection e1 with e1; injection e1 with e1; subst e1; exact h5
theorem sfour (W : World) (n : Int) (hn : 0 ≤ n ∧ n < 4294967296) : Calls Tryd.prog 43 #[.int .u32 n] W fun e w' => e = .returned (.slice (some ⟨W.heap.size, 0, none⟩) 4 4) ∧ Nw W w' ∧ Own w' W.heap.size (.slice (some ⟨W.heap.size, 0, none⟩) 4 4) (four n) := by
  have H : Hid (Own (W.alloc (.cells #[.int .u8 (n / 16777216), .int .u8 (n / 65536 % 256), .int .u8 (n / 256 % 256), .int .u8 (n % 256)] 5)) W.heap.size (.slice (some ⟨W.heap.size, 0, none⟩) 4 4) (four n)) := Own.lit W _ _ 4 _ rfl rfl (Nat.le_refl _) (by omega)
  go_enter Tryd.func43, Tryd.ntmps43
  go_wp2
  go_ret
  exact ⟨rfl, nw_alloc _ _, H.out⟩
theorem smark (W : World) : Calls Tryd.prog 41 #[] W fun e w' => e = .returned (.slice (some ⟨W.heap.size, 0, none⟩) 8 8) ∧ Nw W w' ∧ Own w' W.heap.size (.slice (some ⟨W.heap.size, 0, none⟩) 8 8) mark8 := by
  have H : Hid (Own (W.alloc (.cells #[.int .u8 137, .int .u8 80, .int .u8 78, .int .u8 71, .int .u8 13, .int .u8 10, .int .u8 26, .int .u8 10] 5)) W.heap.size (.slice (some ⟨W.heap.size, 0, none⟩) 8 8) [137, 80, 78, 71, 13, 10, 26, 10]) := Own.lit W _ _ 8 _ rfl rfl (Nat.le_refl _) (by omega)
  go_enter Tryd.func41, Tryd.ntmps41
  go_wp2
  go_ret
  exact ⟨rfl, nw_alloc _ _, H.out⟩

set_option maxHeartbeats 4000000 in
theorem schunk (W : World) (B : Nat) (v : Value) (zs : List Int) (s : ByteArray) (ad : Option Addr) (c : Nat) (ds : List Int) (hs : s.size ≤ 100) (hs0 : 0 < s.size) (hl : zs.length ≤ 1000000) (hd8 : ∀ z ∈ ds, 0 ≤ z ∧ z ≤ 255) (hdl : ds.length ≤ 1000000) (hc : ad = none → c = 0) (hB : B ≤ W.heap.size) (hown : Own W B v zs) (hd : Data W v ad ds) :
    Calls Tryd.prog 66 #[v, .string s, .slice ad ds.length c] W fun e w' => ∃ v', e = .returned v' ∧ Own w' B v' (zs ++ chunk (strInts s) ds) ∧ Ext v v' W w' := by
  have HOw : Hid _ := hown
  have HD : Hid _ := hd
  have H8 : Hid (∀ z ∈ strInts s ++ ds, 0 ≤ z ∧ z ≤ 255) := by
    intro z hz
    rcases List.mem_append.1 hz with hz | hz
    · simp [strInts] at hz
      obtain ⟨b, _, rfl⟩ := hz
      have := b.toNat_lt
      omega
    · exact hd8 z hz
  have HSL : Hid _ := strInts_len s
  have hn0 : 0 ≤ (ds.length : Int) ∧ (ds.length : Int) < 4294967296 := by omega
  clear hown hd hd8
  go_enter Tryd.func66, Tryd.ntmps66
  go_wp2_with fail
  refine Calls.mono (sfour W (ds.length : Int) hn0) ?_
  rintro e w1 ⟨rfl, h1, h2⟩
  have N1 : Hid (Nw W w1) := h1
  have L1 : Hid (Lie w1 W.heap.size 0 (four (ds.length : Int))) := At.lie (own_at0 h2)
  have O1 : Hid (Own w1 B v zs) := Own.nw HOw.out h1
  have z1 : W.heap.size ≤ w1.heap.size := Below.size h1
  clear h1 h2
  go_wp2_with (first
    | (at_builtin; (refine wp_app _ rfl _ _ rfl B v zs (four (ds.length : Int)) rfl O1.out W.heap.size 0 4 4 rfl rfl L1.out ?c1 ?c2 ?_))
    | go_in)
  case c1 => omega
  case c2 => omega
  intro v2 w2 h1 h2
  have O2 : Hid (Own w2 B v2 (zs ++ four (ds.length : Int))) := h1
  have E2 : Hid (Ext v v2 W w2) := Nw.ext N1.out h2
  have D2 : Hid (Data w2 v2 ad ds) := Data.ext HD.out E2.out
  have z2 : w1.heap.size ≤ w2.heap.size := Ext.size h2
  clear h1 h2 O1 L1 N1 HOw HD
  have hcv := Lib.run_convert_string_bytes (P := Tryd.prog) w2 9 22 5 s (u := .string) Tryd.underlying9 Tryd.underlying22 Tryd.underlying5
  go_wp2_with (first
    | (at_builtin; (refine wp_conv w2 rfl _ _ rfl s rfl ad c ds rfl (Data.src0 D2.out) ?c1 ?c2 ?_))
    | go_in)
  case c1 => omega
  case c2 => omega
  intro g c' w3 h1 h2 h3
  have HBL : Hid ((strInts s ++ ds).length = s.size + ds.length) := by show _ = _; rw [List.length_append, HSL.out]
  have L3 : Hid (Lie w3 g 0 (strInts s ++ ds)) := h3
  have O3 : Hid (Own w3 B v2 (zs ++ four (ds.length : Int))) := Own.nw O2.out h2
  have E3 : Hid (Ext v v2 W w3) := Ext.nw E2.out h2
  have z3 : w2.heap.size ≤ w3.heap.size := Below.size h2
  have hne : v2.ownBlock ≠ some g := fun e => by have := (Own.lt O2.out g e).2; omega
  have HF : Hid ((zs ++ four (ds.length : Int)).length = zs.length + 4) := by show _ = _; simp [four]
  clear h1 h2 h3 O2 E2 D2 hcv
  have HE : Hid (zs ++ four (ds.length : Int) ++ (strInts s ++ ds) ++ four (crc (strInts s ++ ds)) = zs ++ chunk (strInts s) ds) := by show _ = _; simp [chunk]
  generalize hz1 : zs ++ four (ds.length : Int) = z1 at *
  have HZ1 : Hid _ := hz1
  clear hz1
  have hcb := crc_bd (strInts s ++ ds)
  have HC : Hid (∀ w', Lie w' g 0 (strInts s ++ ds) → Calls Tryd.prog 44 #[.slice (some ⟨g, 0, none⟩) (s.size + ds.length) c'] w' fun e w2 => e = .returned (.int .u32 (crc (strInts s ++ ds))) ∧ w2 = w') := by
    intro w' h
    rw [← HBL.out]
    exact sl3crc w' _ c' _ (Or.inr ⟨g, 0, rfl, h.1, h.2⟩) (by rw [HBL.out]; omega) H8.out
  generalize hbd : strInts s ++ ds = bd at *
  have HBD : Hid _ := hbd
  clear hbd
  go_wp2_with (first
    | (at_builtin; (refine wp_app _ rfl _ _ rfl B v2 z1 bd rfl O3.out g 0 (s.size + ds.length) c' rfl HBL.out L3.out ?c1 ?c2 ?_))
    | go_in)
  case c1 => have := HF.out; omega
  case c2 => omega
  intro v4 w4 h1 h2
  have O4 : Hid (Own w4 B v4 (z1 ++ bd)) := h1
  have E4 : Hid (Ext v v4 W w4) := Ext.trans E3.out h2
  have L4 : Hid (Lie w4 g 0 bd) := Ext.lie h2 L3.out hne
  have z4 : w3.heap.size ≤ w4.heap.size := Ext.size h2
  clear h1 h2 O3 E3 L3 hne
  have HCC : Hid _ := HC.out w4 L4.out
  generalize crc bd = q at *
  go_wp2_with fail
  refine Calls.mono HCC.out ?_
  rintro e w4 ⟨rfl, rfl⟩
  go_wp2_with fail
  refine Calls.mono (sfour w4 q hcb) ?_
  rintro e w5 ⟨rfl, h1, h2⟩
  have L5 : Hid (Lie w5 w4.heap.size 0 (four q)) := At.lie (own_at0 h2)
  have O5 : Hid (Own w5 B v4 (z1 ++ bd)) := Own.nw O4.out h1
  have E5 : Hid (Ext v v4 W w5) := Ext.nw E4.out h1
  have z5 : w4.heap.size ≤ w5.heap.size := Below.size h1
  have hl5 : (z1 ++ bd).length ≤ 5000000 := by rw [List.length_append, HF.out, HBL.out]; omega
  clear h1 h2 O4 E4 L4 HC HCC
  generalize hz5 : z1 ++ bd = z6 at *
  have HZ5 : Hid _ := hz5
  clear hz5
  go_wp2_with (first
    | (at_builtin; (refine wp_app _ rfl _ _ rfl B v4 z6 (four q) rfl O5.out w4.heap.size 0 4 4 rfl rfl L5.out ?c1 ?c2 ?_))
    | go_in)
  case c1 => omega
  case c2 => omega
  intro v6 w6 h1 h2
  have HR : Hid (Own w6 B v6 (zs ++ chunk (strInts s) ds) ∧ Ext v v6 W w6) := ⟨by rw [← HE.out]; exact h1, Ext.trans E5.out h2⟩
  clear h1 h2 O5 E5 L5
  go_wp2
  go_ret
  exact ⟨_, rfl, HR.out⟩
end Go.Proofs.YteehoihkbcbbgaaDoor
