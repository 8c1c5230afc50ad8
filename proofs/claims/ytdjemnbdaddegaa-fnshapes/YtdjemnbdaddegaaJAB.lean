/-
  A byte as a text; each theorem names its conditions.
-/
import Derived.Test.YtdjemnbdaddegaaJAA
import Derived.Lib.SlBytesRow
import Derived.Deep.DeepCutAuto
import Derived.Deep.RegionWith
import Derived.Deep.RegionHeld3
import Derived.Maps.AppendAt
import Derived.OwnWalk
import Derived.Handy
namespace Go.Proofs.Ytdjemnbdaddegaa
open Go.ChangeShapes Go.WideShapes Go.ChangeAt Go.RowKit
set_option linter.unusedVariables false
theorem conv_at (c : UInt8) (W : World) (g : Nat) (h : W.cell? ⟨g, 0, none⟩ = some (.int .u8 (c.toNat : Int))) : (convert 22 9 (.slice (some ⟨g, 0, none⟩) 1 1)).run Try.prog W = .ok (.string ⟨#[c]⟩) W := by
 have hu : Try.prog.underlying 9 = some .string := Try.underlying9
 have h8 : Try.prog.underlying 5 = some (.int .u8) := Try.underlying5
 refine Lib.run_convert_whole _ _ _ _ Try.underlying22 h8 hu g 0 ⟨#[c]⟩ ?_ 1
 intro i hi
 have e : i = 0 := by have : (⟨#[c]⟩ : ByteArray).size = 1 := rfl; omega
 subst e
 simp
 exact h
theorem Cur.nw {w w' : World} {B : Nat} {ca : Option Addr} {len cap n : Nat} (h : Cur w B ca len cap n) (k : Nw w w') : Cur w' B ca len cap n := by
 obtain ⟨k', sd, q1, q2, q3, c0, c1, c2, hf, hB⟩ := h
 have e := fun o => (show w'.cell? ⟨B, o, none⟩ = w.cell? ⟨B, o, none⟩ from World.cell?_of_block (w := w) (a := ⟨B, o, none⟩) (Below.block k B hB))
 exact ⟨k', sd, q1, q2, q3, (e _).trans c0, (e _).trans c1, (e _).trans c2, fun o => (World.frozen?_of_block (w := w) (a := ⟨B, o, none⟩) (Below.block k B hB)).trans (hf o), Nat.lt_of_lt_of_le hB (Below.size k)⟩
theorem app_sz (a b : ByteArray) : (a ++ b).size = a.size + b.size := ByteArray.size_append
set_option maxHeartbeats 1000000 in
theorem num_dig (w : World) (k : Nat) (hk : k ≤ 9) : Calls Try.prog 114 #[.int .i64 (k : Int)] w fun e w' => (∃ v : ByteArray, e = .returned (.string v) ∧ v.size = 1) ∧ Nw w w' := by
 have e1 : (((UInt8.ofNat (48 + k)).toNat : Nat) : Int) = 48 + (k : Int) := by
  have : (UInt8.ofNat (48 + k)).toNat = 48 + k := by rw [UInt8.toNat_ofNat']; exact Nat.mod_eq_of_lt (by omega)
  rw [this]; omega
 have hw8 : IntKind.u8.wrap (48 + (k : Int)) = 48 + (k : Int) := by rw [IntKind.wrap_u8]; omega
 have hm8 : (48 + (k : Int)) % 256 = 48 + (k : Int) := by omega
 have hneg : decide ((k : Int) < 0) = false := decide_eq_false (by omega)
 have h10 : decide ((k : Int) < 10) = true := decide_eq_true (by omega)
 have hcv : (convert 22 9 (.slice (some ⟨w.heap.size, 0, none⟩) 1 1)).run Try.prog (w.alloc (.cells #[.int .u8 (48 + (k : Int))] 5)) = .ok (.string ⟨#[UInt8.ofNat (48 + k)]⟩) (w.alloc (.cells #[.int .u8 (48 + (k : Int))] 5)) :=
  conv_at (UInt8.ofNat (48 + k)) _ _ (by rw [e1]; simp)
 have hsz : (⟨#[UInt8.ofNat (48 + k)]⟩ : ByteArray).size = 1 := rfl
 generalize (⟨#[UInt8.ofNat (48 + k)]⟩ : ByteArray) = v at *
 clear e1
 go_enter Try.func114, Try.ntmps114
 go_wp2
 go_ret
 exact ⟨⟨v, rfl, hsz⟩, (Below.refl _ _).alloc (Nat.le_refl _) _⟩
def TextDrawn (m : Nat) (e : Ending) : Prop := ∃ v : ByteArray, e = .returned (.string v) ∧ v.size ≤ m
set_option maxRecDepth 100000 in
set_option maxHeartbeats 8000000 in
theorem decimal_any (w : World) (B : Nat) (ca : Option Addr) (len cap n : Nat) (hl : len ≤ 9223372036854775807) (hn : n ≤ 10000000) (hc : Cur w B ca len cap n) (hd : Code w B ca len) :
  Calls Try.prog 136 #[.pointer (some ⟨B, 0, none⟩)] w fun e w' => TextDrawn 20 e ∧ Cur w' B ca len cap (n + 40) ∧ Gr B w w' := by
 have hB := hc.lt
 have HC0 : Hid (Cur w B ca len cap n) := hc
 have DC : Hid (∀ w', Gr B w w' → Code w' B ca len) := fun w' h => Code.below hd (h.below (by omega))
 clear hc hd hB
 go_enter Try.func136, Try.ntmps136
 go_wp2_with fail
 refine (of_lit w B 1 [⟨#[]⟩, ⟨#[]⟩, ⟨#[45]⟩, ⟨#[43]⟩] (by decide) 9 ca len cap n hl (by omega) (by decide) (by decide) HC0.out (DC.out _ (Gr.refl _ _))).mono ?_
 rintro e w1 ⟨s0, rfl, hs0, hc1, hg1⟩
 have C1 : Hid (Cur w1 B ca len cap (n + 2)) := hc1
 have G1 : Hid (Gr B w w1) := hg1
 clear hc1 hg1 HC0
 go_wp2_with fail
 refine (pick_any w1 B ca len cap (n + 2) 4 hl (by omega) (by omega) (by omega) C1.out (DC.out _ G1.out)).mono ?_
 rintro e w2 ⟨v, rfl, v0, v1, hc2, hb2⟩
 have C2 : Hid (Cur w2 B ca len cap (n + 4)) := hc2
 have G2 : Hid (Gr B w w2) := G1.out.trans (Gr.of_sel hb2)
 obtain ⟨m, rfl⟩ := Int.eq_ofNat_of_zero_le v0
 have hm3 : m ≤ 3 := by omega
 clear hc2 hb2 v0 v1 C1 G1
 go_wp2
 go_loopw [3, 4] (fun v i wr => ∃ (k : Nat) (s : ByteArray), i = .int .i64 (k : Int) ∧ v = .string s ∧ k ≤ 4 ∧ s.size + k ≤ 5 ∧ Cur wr B ca len cap (n + 4 + 2 * (4 - k)) ∧ Gr B w wr) (fun _ i _ => (intOf i).toNat)
 case atStart => exact ⟨1 + m, s0, by go_num, rfl, by omega, by omega, C2.out.mono (by omega), G2.out⟩
 case round =>
  obtain ⟨k, s, rfl, rfl, hk4, hsk, hcr, hgr⟩ := hrel
  have CR : Hid (Cur wr B ca len cap (n + 4 + 2 * (4 - k))) := hcr
  have GR : Hid (Gr B w wr) := hgr
  clear hcr hgr
  by_cases hk0 : 0 < k
  ·have dk : decide ((0 : Int) < (k : Int)) = true := by simp; omega
   obtain ⟨k2, hk2⟩ : ∃ k2, k = k2 + 1 := ⟨k - 1, by omega⟩
   subst hk2
   go_wp2_with fail
   refine (pick_any wr B ca len cap _ 10 hl (by omega) (by omega) (by omega) CR.out (DC.out _ GR.out)).mono ?_
   rintro e w3 ⟨v, rfl, v0, v1, hc3, hb3⟩
   have C3 : Hid (Cur w3 B ca len cap (n + 4 + 2 * (4 - (k2 + 1)) + 2)) := hc3
   have G3 : Hid (Gr B w w3) := GR.out.trans (Gr.of_sel hb3)
   obtain ⟨d, rfl⟩ := Int.eq_ofNat_of_zero_le v0
   have hd9 : d ≤ 9 := by omega
   clear hc3 hb3 v0 v1
   go_wp2_with fail
   refine (num_dig w3 d hd9).mono ?_
   rintro e w4 ⟨⟨x, rfl, hx⟩, k4⟩
   have C4 : Hid (Cur w4 B ca len cap (n + 4 + 2 * (4 - (k2 + 1)) + 2)) := C3.out.nw k4
   have G4 : Hid (Gr B w w4) := G3.out.trans (Gr.of_nw k4)
   have hsx : s.size + x.size ≤ 9223372036854775807 := by omega
   clear k4
   go_wp2
   go_roundw
   case rel => exact ⟨k2, s ++ x, by go_num, rfl, by omega, by rw [app_sz]; omega, C4.out.mono (by omega), G4.out⟩
   case measure => simp [intOf]
  ·have hk1 : k = 0 := by omega
   subst hk1
   have hs5 : s.size ≤ 5 := by omega
   go_wp2_with fail
   refine (one_any wr B ca len cap _ 2 hl (by omega) (by omega) (by omega) CR.out (DC.out _ GR.out)).mono ?_
   rintro e w3 ⟨b3, rfl, hc3, hb3⟩
   have C3 : Hid (Cur w3 B ca len cap (n + 14)) := hc3.mono (by omega)
   have G3 : Hid (Gr B w w3) := GR.out.trans (Gr.of_sel hb3)
   clear hc3 hb3
   cases b3 with
   | false =>
    go_wp2
    go_ret
    exact ⟨⟨s, rfl, by omega⟩, C3.out.mono (by omega), G3.out⟩
   | true =>
    have hs1 : s.size + (⟨#[46]⟩ : ByteArray).size ≤ 9223372036854775807 := by have : (⟨#[46]⟩ : ByteArray).size = 1 := rfl; omega
    have HS6 : Hid ((s ++ ⟨#[46]⟩).size ≤ 6) := by show _ ≤ _; rw [app_sz]; have : (⟨#[46]⟩ : ByteArray).size = 1 := rfl; omega
    go_wp2_with fail
    refine (pick_any w3 B ca len cap (n + 14) 6 hl (by omega) (by omega) (by omega) C3.out (DC.out _ G3.out)).mono ?_
    rintro e w4 ⟨v, rfl, v0, v1, hc4, hb4⟩
    have C4 : Hid (Cur w4 B ca len cap (n + 16)) := hc4
    have G4 : Hid (Gr B w w4) := G3.out.trans (Gr.of_sel hb4)
    obtain ⟨m2, rfl⟩ := Int.eq_ofNat_of_zero_le v0
    have hm4 : m2 ≤ 5 := by omega
    clear hc4 hb4 v0 v1 C3 G3
    generalize s ++ ⟨#[46]⟩ = s6 at *
    go_wp2
    go_loopw [3, 5] (fun v i wr => ∃ (k : Nat) (s : ByteArray), i = .int .i64 (k : Int) ∧ v = .string s ∧ k ≤ 6 ∧ s.size + k ≤ 12 ∧ Cur wr B ca len cap (n + 16 + 2 * (6 - k)) ∧ Gr B w wr) (fun _ i _ => (intOf i).toNat)
    case atStart => exact ⟨1 + m2, s6, by go_num, rfl, by omega, by have := HS6.out; omega, C4.out.mono (by omega), G4.out⟩
    case round =>
     obtain ⟨k, s, rfl, rfl, hk4, hsk, hcr, hgr⟩ := hrel
     have CR : Hid (Cur wr B ca len cap (n + 16 + 2 * (6 - k))) := hcr
     have GR : Hid (Gr B w wr) := hgr
     clear hcr hgr
     by_cases hk0 : 0 < k
     ·have dk : decide ((0 : Int) < (k : Int)) = true := by simp; omega
      obtain ⟨k2, hk2⟩ : ∃ k2, k = k2 + 1 := ⟨k - 1, by omega⟩
      subst hk2
      go_wp2_with fail
      refine (pick_any wr B ca len cap _ 10 hl (by omega) (by omega) (by omega) CR.out (DC.out _ GR.out)).mono ?_
      rintro e w3 ⟨v, rfl, v0, v1, hc3, hb3⟩
      have C3 : Hid (Cur w3 B ca len cap (n + 16 + 2 * (6 - (k2 + 1)) + 2)) := hc3
      have G3 : Hid (Gr B w w3) := GR.out.trans (Gr.of_sel hb3)
      obtain ⟨d, rfl⟩ := Int.eq_ofNat_of_zero_le v0
      have hd9 : d ≤ 9 := by omega
      clear hc3 hb3 v0 v1
      go_wp2_with fail
      refine (num_dig w3 d hd9).mono ?_
      rintro e w4 ⟨⟨x, rfl, hx⟩, k4⟩
      have C4 : Hid (Cur w4 B ca len cap (n + 16 + 2 * (6 - (k2 + 1)) + 2)) := C3.out.nw k4
      have G4 : Hid (Gr B w w4) := G3.out.trans (Gr.of_nw k4)
      have hsx : s.size + x.size ≤ 9223372036854775807 := by omega
      clear k4
      go_wp2
      go_roundw
      case rel => exact ⟨k2, s ++ x, by go_num, rfl, by omega, by rw [app_sz]; omega, C4.out.mono (by omega), G4.out⟩
      case measure => simp [intOf]
     ·have hk1 : k = 0 := by omega
      subst hk1
      go_wp2
      go_ret
      exact ⟨⟨s, rfl, by omega⟩, CR.out.mono (by omega), GR.out⟩
set_option maxRecDepth 100000 in
set_option maxHeartbeats 8000000 in
theorem numbersText_any (w : World) (B : Nat) (ca : Option Addr) (len cap n : Nat) (M : Nat) (hM : M ≤ 100) (hl : len ≤ 9223372036854775807) (hn : n ≤ 1000000) (hc : Cur w B ca len cap n) (hd : Code w B ca len) :
  Calls Try.prog 115 #[.pointer (some ⟨B, 0, none⟩), .int .i64 (M : Int)] w fun e w' => TextDrawn (23 * M) e ∧ Cur w' B ca len cap (n + 42 * M) ∧ Gr B w w' := by
 have hB := hc.lt
 have HC0 : Hid (Cur w B ca len cap n) := hc
 have DC : Hid (∀ w', Gr B w w' → Code w' B ca len) := fun w' h => Code.below hd (h.below (by omega))
 clear hc hd hB
 go_enter Try.func115, Try.ntmps115
 go_wp2
 go_loopw [5, 6] (fun v i wr => ∃ (k : Nat) (s : ByteArray), i = .int .i64 (k : Int) ∧ v = .string s ∧ k ≤ M ∧ s.size ≤ 23 * k ∧ Cur wr B ca len cap (n + 42 * k) ∧ Gr B w wr) (fun _ i _ => M - (intOf i).toNat)
 case atStart => exact ⟨0, ⟨#[]⟩, rfl, rfl, by omega, by decide, HC0.out.mono (by omega), Gr.refl _ _⟩
 case round =>
  obtain ⟨k, s, rfl, rfl, hkM, hsk, hcr, hgr⟩ := hrel
  have CR : Hid (Cur wr B ca len cap (n + 42 * k)) := hcr
  have GR : Hid (Gr B w wr) := hgr
  clear hcr hgr
  by_cases hlt : k < M
  ·have hkI : (k : Int) < (M : Int) := by omega
   go_upto_if 13 with fail
   go_cut [5] (fun v wx => ∃ s2 : ByteArray, v = .string s2 ∧ s2.size ≤ 23 * k + 3 ∧ Cur wx B ca len cap (n + 42 * k + 2) ∧ Gr B w wx)
   case first =>
    by_cases hk0 : 0 < k
    ·have dk : decide ((0 : Int) < (k : Int)) = true := by simp; omega
     go_wp2_with fail
     refine (of_lit wr B 3 [⟨#[32]⟩, ⟨#[44]⟩, ⟨#[32, 44, 32]⟩, ⟨#[32]⟩] (by decide) 9 ca len cap _ hl (by omega) (by decide) (by decide) CR.out (DC.out _ GR.out)).mono ?_
     rintro e w3 ⟨x, rfl, hx, hc3, hg3⟩
     have C3 : Hid (Cur w3 B ca len cap (n + 42 * k + 2)) := hc3
     have G3 : Hid (Gr B w w3) := GR.out.trans hg3
     have hsx : s.size + x.size ≤ 9223372036854775807 := by omega
     clear hc3 hg3
     go_wp2
     go_meet
     exact ⟨s ++ x, rfl, by rw [app_sz]; omega, C3.out, G3.out⟩
    ·have dk : decide ((0 : Int) < (k : Int)) = false := decide_eq_false (by omega)
     go_wp2
     go_meet
     exact ⟨s, rfl, by omega, CR.out.mono (by omega), GR.out⟩
   case rest =>
    obtain ⟨s2, rfl, hs2, hc3, hg3⟩ := hcut
    have C3 : Hid (Cur wc B ca len cap (n + 42 * k + 2)) := hc3
    have G3 : Hid (Gr B w wc) := hg3
    clear hc3 hg3
    go_wp2_with fail
    refine (decimal_any wc B ca len cap _ hl (by omega) C3.out (DC.out _ G3.out)).mono ?_
    rintro e w4 ⟨⟨x, rfl, hx⟩, hc4, hg4⟩
    have C4 : Hid (Cur w4 B ca len cap (n + 42 * k + 2 + 40)) := hc4
    have G4 : Hid (Gr B w w4) := G3.out.trans hg4
    have hsx : s2.size + x.size ≤ 9223372036854775807 := by omega
    clear hc4 hg4
    go_wp2
    go_roundw
    case rel => exact ⟨k + 1, s2 ++ x, by go_num, rfl, by omega, by rw [app_sz]; omega, C4.out.mono (by omega), G4.out⟩
    case measure => simp [intOf]; omega
  ·have hkM2 : k = M := by omega
   subst hkM2
   go_wp2
   go_ret
   exact ⟨⟨s, rfl, hsk⟩, CR.out, GR.out⟩
theorem num_digX (k : Nat) (hk : k ≤ 9) : ∃ v : ByteArray, v.size = 1 ∧ ∀ w, Calls Try.prog 114 #[.int .i64 (k : Int)] w fun e w' => e = .returned (.string v) ∧ w' = w.alloc (.cells #[.int .u8 (48 + (k : Int))] 5) := by
 refine ⟨⟨#[UInt8.ofNat (48 + k)]⟩, rfl, fun w => ?_⟩
 have e1 : (((UInt8.ofNat (48 + k)).toNat : Nat) : Int) = 48 + (k : Int) := by
  have : (UInt8.ofNat (48 + k)).toNat = 48 + k := by rw [UInt8.toNat_ofNat']; exact Nat.mod_eq_of_lt (by omega)
  rw [this]; omega
 have hw8 : IntKind.u8.wrap (48 + (k : Int)) = 48 + (k : Int) := by rw [IntKind.wrap_u8]; omega
 have hm8 : (48 + (k : Int)) % 256 = 48 + (k : Int) := by omega
 have hneg : decide ((k : Int) < 0) = false := decide_eq_false (by omega)
 have h10 : decide ((k : Int) < 10) = true := decide_eq_true (by omega)
 have hcv : (convert 22 9 (.slice (some ⟨w.heap.size, 0, none⟩) 1 1)).run Try.prog (w.alloc (.cells #[.int .u8 (48 + (k : Int))] 5)) = .ok (.string ⟨#[UInt8.ofNat (48 + k)]⟩) (w.alloc (.cells #[.int .u8 (48 + (k : Int))] 5)) :=
  conv_at (UInt8.ofNat (48 + k)) _ _ (by rw [e1]; simp)
 generalize (⟨#[UInt8.ofNat (48 + k)]⟩ : ByteArray) = v at *
 clear e1
 go_enter Try.func114, Try.ntmps114
 go_wp2
 go_ret
 exact ⟨rfl, rfl⟩
set_option maxHeartbeats 2000000 in
set_option maxRecDepth 100000 in
theorem num_small (w : World) (k : Nat) (hk : k ≤ 99) : Calls Try.prog 114 #[.int .i64 (k : Int)] w fun e w' => (∃ v : ByteArray, e = .returned (.string v) ∧ v.size ≤ 2) ∧ Nw w w' := by
 by_cases h9 : k ≤ 9
 ·refine (num_dig w k h9).mono ?_
  rintro e w' ⟨⟨v, rfl, hv⟩, h⟩
  exact ⟨⟨v, rfl, by omega⟩, h⟩
 obtain ⟨a, ha⟩ : ∃ a, k / 10 = a := ⟨_, rfl⟩
 obtain ⟨d, hd⟩ : ∃ d, k % 10 = d := ⟨_, rfl⟩
 have ha9 : a ≤ 9 := by omega
 have hd9 : d ≤ 9 := by omega
 obtain ⟨v, hv, HV⟩ := num_digX a ha9
 have HV1 : Hid _ := HV
 clear HV
 have hneg : decide ((k : Int) < 0) = false := decide_eq_false (by omega)
 have h10 : decide ((k : Int) < 10) = false := decide_eq_false (by omega)
 have hq1 : (k : Int).tdiv 10 = (a : Int) := by rw [Int.tdiv_eq_ediv_of_nonneg (by omega)]; omega
 have hq2 : (k : Int) / 10 = (a : Int) := by omega
 have hr1 : (k : Int).tmod 10 = (d : Int) := by rw [Int.tmod_eq_emod_of_nonneg (by omega)]; omega
 have hr2 : (k : Int) % 10 = (d : Int) := by omega
 have hw1 : IntKind.i64.wrap (48 + (d : Int)) = 48 + (d : Int) := by rw [IntKind.wrap_i64]; omega
 have hw2 : IntKind.u8.wrap (48 + (d : Int)) = 48 + (d : Int) := by rw [IntKind.wrap_u8]; omega
 have hm8 : (48 + (d : Int)) % 256 = 48 + (d : Int) := by omega
 have hw3 : IntKind.i64.wrap (a : Int) = (a : Int) := by rw [IntKind.wrap_i64]; omega
 have e1 : (((UInt8.ofNat (48 + d)).toNat : Nat) : Int) = 48 + (d : Int) := by
  have : (UInt8.ofNat (48 + d)).toNat = 48 + d := by rw [UInt8.toNat_ofNat']; exact Nat.mod_eq_of_lt (by omega)
  rw [this]; omega
 have f1 : (convert 22 9 (.slice (some ⟨w.heap.size + 1, 0, none⟩) 1 1)).run Try.prog (((w.alloc (.cells #[.int .u8 (48 + (a : Int))] 5)).alloc (.cells #[.int .u8 (48 + (d : Int))] 5)).drew) = .ok (.string ⟨#[UInt8.ofNat (48 + d)]⟩) (((w.alloc (.cells #[.int .u8 (48 + (a : Int))] 5)).alloc (.cells #[.int .u8 (48 + (d : Int))] 5)).drew) := conv_at (UInt8.ofNat (48 + d)) _ _ (by rw [e1]; simp)
 have f2 : (convert 22 9 (.slice (some ⟨w.heap.size, 0, none⟩) 1 1)).run Try.prog (((w.alloc (.cells #[.int .u8 (48 + (d : Int))] 5)).alloc (.cells #[.int .u8 (48 + (a : Int))] 5)).drew) = .ok (.string ⟨#[UInt8.ofNat (48 + d)]⟩) (((w.alloc (.cells #[.int .u8 (48 + (d : Int))] 5)).alloc (.cells #[.int .u8 (48 + (a : Int))] 5)).drew) := conv_at (UInt8.ofNat (48 + d)) _ _ (by rw [e1]; simp)
 have f3 : (convert 22 9 (.slice (some ⟨w.heap.size, 0, none⟩) 1 1)).run Try.prog ((w.alloc (.cells #[.int .u8 (48 + (d : Int))] 5)).drew) = .ok (.string ⟨#[UInt8.ofNat (48 + d)]⟩) ((w.alloc (.cells #[.int .u8 (48 + (d : Int))] 5)).drew) := conv_at (UInt8.ofNat (48 + d)) _ _ (by rw [e1]; simp)
 have hs2 : (⟨#[UInt8.ofNat (48 + d)]⟩ : ByteArray).size = 1 := rfl
 generalize (⟨#[UInt8.ofNat (48 + d)]⟩ : ByteArray) = u at *
 clear e1 h9 ha hd
 go_enter Try.func114, Try.ntmps114
 go_wp2
 go_region_with (go_at_call 114; refine Calls.mono (HV1.out _) ?_; rintro e w1 ⟨rfl, rfl⟩)
 all_goals
  go_wp2
  go_ret
  exact ⟨⟨v ++ u, rfl, by rw [app_sz]; omega⟩, (((Below.refl _ _).alloc (Nat.le_refl _) _).alloc (by simp) _).drew⟩
def inR (x : Int) : Bool := decide (-4294967296 ≤ x) && decide (x ≤ 4294967296)
def el (a b c d e f : Int) : Nat → Int
 | 0 => a
 | 1 => b
 | 2 => c
 | 3 => d
 | 4 => e
 | _ => f
def gA (a b c d e f : Int) : Bool := (List.range 6).all fun k => inR (el a b c d e f k)
theorem gA_false {a b c d e f : Int} (k : Nat) (hk : k < 6) (h : inR (el a b c d e f k) = false) : gA a b c d e f = false := by
 unfold gA
 rw [List.all_eq_false]
 exact ⟨k, List.mem_range.2 hk, by rw [h]; decide⟩
theorem gA_true {a b c d e f : Int} (h : ∀ k, k < 6 → inR (el a b c d e f k) = true) : gA a b c d e f = true := by
 unfold gA
 rw [List.all_eq_true]
 exact fun k hk => h k (List.mem_range.1 hk)
abbrev affV (a b c d e f : Int) : Value := .agg #[.int .i64 a, .int .i64 b, .int .i64 c, .int .i64 d, .int .i64 e, .int .i64 f]
theorem sin_any (w : World) (x : Int) : Calls Try.prog 45 #[.int .i64 x, .int .i64 (-4294967296), .int .i64 4294967296] w fun e w' => e = .returned (.bool (inR x)) ∧ w' = w := by
 by_cases h1 : -4294967296 ≤ x
 ·by_cases h2 : x ≤ 4294967296
  ·have h : inR x = true := by unfold inR; simp [h1, h2]
   rw [h]
   go_enter Try.func45, Try.ntmps45
   go_wp2
   go_ret
   exact ⟨rfl, rfl⟩
  ·have h : inR x = false := by unfold inR; simp [h2]
   have h3 : decide (x ≤ 4294967296) = false := by simp; omega
   rw [h]
   go_enter Try.func45, Try.ntmps45
   go_wp2
   go_ret
   exact ⟨rfl, rfl⟩
 ·have h : inR x = false := by unfold inR; simp [h1]
  rw [h]
  go_enter Try.func45, Try.ntmps45
  go_wp2
  go_ret
  exact ⟨rfl, rfl⟩
set_option maxHeartbeats 4000000 in
theorem sgoodAff (w : World) (a b c d e f : Int) : Calls Try.prog 54 #[affV a b c d e f] w fun x w' => x = .returned (.bool (gA a b c d e f)) ∧ Kp w w' := by
 unfold affV
 go_enter Try.func54, Try.ntmps54
 go_wp2
 go_loop [19] (fun v => ∃ k : Nat, k ≤ 6 ∧ v = .int .i64 (k : Int) ∧ ∀ j, j < k → inR (el a b c d e f j) = true) (fun v => 6 - (intOf v).toNat)
 case atStart => exact ⟨0, by omega, rfl, fun j hj => absurd hj (by omega)⟩
 case round =>
  obtain ⟨k, hk, rfl, hall⟩ := hrel
  have HA : Hid _ := hall
  clear hall
  by_cases h6 : k < 6
  ·have hc : k = 0 ∨ k = 1 ∨ k = 2 ∨ k = 3 ∨ k = 4 ∨ k = 5 := by omega
   rcases hc with rfl | rfl | rfl | rfl | rfl | rfl
   ·clear h6 hk
    go_wp2_with fail
    refine (sin_any _ _).mono ?_
    rintro y w' ⟨rfl, rfl⟩
    cases hi : inR a with
    | true =>
     go_wp2
     go_round
     case rel => exact ⟨1, by omega, by go_num, fun j hj => by rcases Nat.lt_succ_iff_lt_or_eq.1 hj with h | rfl; exact HA.out j h; exact hi⟩
     case measure => simp [intOf]
    | false =>
     go_wp2
     go_ret
     exact ⟨by rw [gA_false (a := a) (b := b) (c := c) (d := d) (e := e) (f := f) 0 (by omega) hi]; rfl, ((Kp.refl w).alloc _ _).alloc _ _⟩
   ·clear h6 hk
    go_wp2_with fail
    refine (sin_any _ _).mono ?_
    rintro y w' ⟨rfl, rfl⟩
    cases hi : inR b with
    | true =>
     go_wp2
     go_round
     case rel => exact ⟨2, by omega, by go_num, fun j hj => by rcases Nat.lt_succ_iff_lt_or_eq.1 hj with h | rfl; exact HA.out j h; exact hi⟩
     case measure => simp [intOf]
    | false =>
     go_wp2
     go_ret
     exact ⟨by rw [gA_false (a := a) (b := b) (c := c) (d := d) (e := e) (f := f) 1 (by omega) hi]; rfl, ((Kp.refl w).alloc _ _).alloc _ _⟩
   ·clear h6 hk
    go_wp2_with fail
    refine (sin_any _ _).mono ?_
    rintro y w' ⟨rfl, rfl⟩
    cases hi : inR c with
    | true =>
     go_wp2
     go_round
     case rel => exact ⟨3, by omega, by go_num, fun j hj => by rcases Nat.lt_succ_iff_lt_or_eq.1 hj with h | rfl; exact HA.out j h; exact hi⟩
     case measure => simp [intOf]
    | false =>
     go_wp2
     go_ret
     exact ⟨by rw [gA_false (a := a) (b := b) (c := c) (d := d) (e := e) (f := f) 2 (by omega) hi]; rfl, ((Kp.refl w).alloc _ _).alloc _ _⟩
   ·clear h6 hk
    go_wp2_with fail
    refine (sin_any _ _).mono ?_
    rintro y w' ⟨rfl, rfl⟩
    cases hi : inR d with
    | true =>
     go_wp2
     go_round
     case rel => exact ⟨4, by omega, by go_num, fun j hj => by rcases Nat.lt_succ_iff_lt_or_eq.1 hj with h | rfl; exact HA.out j h; exact hi⟩
     case measure => simp [intOf]
    | false =>
     go_wp2
     go_ret
     exact ⟨by rw [gA_false (a := a) (b := b) (c := c) (d := d) (e := e) (f := f) 3 (by omega) hi]; rfl, ((Kp.refl w).alloc _ _).alloc _ _⟩
   ·clear h6 hk
    go_wp2_with fail
    refine (sin_any _ _).mono ?_
    rintro y w' ⟨rfl, rfl⟩
    cases hi : inR e with
    | true =>
     go_wp2
     go_round
     case rel => exact ⟨5, by omega, by go_num, fun j hj => by rcases Nat.lt_succ_iff_lt_or_eq.1 hj with h | rfl; exact HA.out j h; exact hi⟩
     case measure => simp [intOf]
    | false =>
     go_wp2
     go_ret
     exact ⟨by rw [gA_false (a := a) (b := b) (c := c) (d := d) (e := e) (f := f) 4 (by omega) hi]; rfl, ((Kp.refl w).alloc _ _).alloc _ _⟩
   ·clear h6 hk
    go_wp2_with fail
    refine (sin_any _ _).mono ?_
    rintro y w' ⟨rfl, rfl⟩
    cases hi : inR f with
    | true =>
     go_wp2
     go_round
     case rel => exact ⟨6, by omega, by go_num, fun j hj => by rcases Nat.lt_succ_iff_lt_or_eq.1 hj with h | rfl; exact HA.out j h; exact hi⟩
     case measure => simp [intOf]
    | false =>
     go_wp2
     go_ret
     exact ⟨by rw [gA_false (a := a) (b := b) (c := c) (d := d) (e := e) (f := f) 5 (by omega) hi]; rfl, ((Kp.refl w).alloc _ _).alloc _ _⟩
  ·obtain rfl : k = 6 := by omega
   clear h6 hk
   go_wp2
   go_ret
   exact ⟨by rw [gA_true HA.out]; rfl, ((Kp.refl w).alloc _ _).alloc _ _⟩
theorem el_at (a b c d e f : Int) (k : Nat) (h : k < 6) : (#[.int .i64 a, .int .i64 b, .int .i64 c, .int .i64 d, .int .i64 e, .int .i64 f] : Array Value)[k]? = some (.int .i64 (el a b c d e f k)) := by
 have hc : k = 0 ∨ k = 1 ∨ k = 2 ∨ k = 3 ∨ k = 4 ∨ k = 5 := by omega
 rcases hc with rfl | rfl | rfl | rfl | rfl | rfl <;> rfl
theorem ix6 (T : Array Value) (k : Nat) (c : Int) (h : k < 6) (c0 : T[k]? = some (.int .i64 c)) (W : World) : (Instr.index 133 (.agg T) (.int .i64 (k : Int))).run Try.prog W = .ok (.int .i64 c) W := by
 have h2 : (0 : Int) ≤ (k : Int) ∧ (k : Int) < 6 := by omega
 simp [Instr.index, run_underlying Try.underlying133, asIntOf, h2, h, c0, go_sem]
set_option maxHeartbeats 4000000 in
theorem igoodAff (w : World) (a b c d e f : Int) : Calls Try.prog 50 #[affV a b c d e f] w fun x w' => x = .returned (.bool (gA a b c d e f)) ∧ Kp w w' := by
 unfold affV
 go_enter Try.func50, Try.ntmps50
 go_wp2
 go_loop [18] (fun v => ∃ k : Nat, k ≤ 6 ∧ v = .int .i64 (k : Int) ∧ ∀ j, j < k → inR (el a b c d e f j) = true) (fun v => 6 - (intOf v).toNat)
 case atStart => exact ⟨0, by omega, rfl, fun j hj => absurd hj (by omega)⟩
 case round =>
  obtain ⟨k, hk, rfl, hall⟩ := hrel
  have HA : Hid _ := hall
  clear hall
  by_cases h6 : k < 6
  ·have hix := ix6 _ k _ h6 (el_at a b c d e f k h6)
   obtain ⟨X, hX⟩ : ∃ X, el a b c d e f k = X := ⟨_, rfl⟩
   rw [hX] at hix
   have HX : Hid _ := hX
   clear hX
   by_cases h1 : -4294967296 ≤ X
   ·by_cases h2 : X ≤ 4294967296
    ·have hi : Hid (inR X = true) := by show _ = _; unfold inR; simp [h1, h2]
     go_wp2
     go_round
     case rel => exact ⟨k + 1, by omega, by go_num, fun j hj => by
      rcases Nat.lt_succ_iff_lt_or_eq.1 hj with h | rfl
      ·exact HA.out j h
      ·rw [HX.out]; exact hi.out⟩
     case measure => simp [intOf]; omega
    ·have hi : Hid (inR X = false) := by show _ = _; unfold inR; simp [h2]
     have h3 : decide (4294967296 < X) = true := by simp; omega
     go_wp2
     go_ret
     exact ⟨by rw [gA_false (a := a) (b := b) (c := c) (d := d) (e := e) (f := f) k h6 (by rw [HX.out]; exact hi.out)]; rfl, (Kp.refl w).alloc _ _⟩
   ·have hi : Hid (inR X = false) := by show _ = _; unfold inR; simp [h1]
    go_wp2
    go_ret
    exact ⟨by rw [gA_false (a := a) (b := b) (c := c) (d := d) (e := e) (f := f) k h6 (by rw [HX.out]; exact hi.out)]; rfl, (Kp.refl w).alloc _ _⟩
  ·obtain rfl : k = 6 := by omega
   clear h6 hk
   go_wp2
   go_ret
   exact ⟨by rw [gA_true HA.out]; rfl, (Kp.refl w).alloc _ _⟩
theorem bcell {W w1 : World} (hb : Nw W w1) : (∀ b o, b < W.heap.size → w1.cell? ⟨b, o, none⟩ = W.cell? ⟨b, o, none⟩) ∧ (∀ b o, b < W.heap.size → w1.frozen? ⟨b, o, none⟩ = W.frozen? ⟨b, o, none⟩) :=
 ⟨fun b o h => Below.cell hb (p := ⟨b, o, none⟩) h, fun b o h => Below.frozen hb (p := ⟨b, o, none⟩) h⟩
theorem madeCells_get (z : Array Value) (n j : Nat) (h : j < n) : (madeCells z n)[j]? = some (z[j % z.size]!) := by
 simp [madeCells, h]
theorem add_at (b off i : Nat) : (⟨b, off, none⟩ : Addr).add i = ⟨b, off + i, none⟩ := by
 unfold Addr.add
 by_cases h0 : i = 0
 ·subst h0; simp
 ·simp [h0]
def Ext (v v' : Value) (w w' : World) : Prop := w.grownBy w' v.ownBlock ∧ (v'.ownBlock = v.ownBlock ∨ ∃ g, v'.ownBlock = some g ∧ w.heap.size ≤ g)
theorem Ext.refl (v : Value) (w : World) : Ext v v w w := ⟨⟨rfl, rfl, rfl, Nat.le_refl _, fun _ _ _ => rfl⟩, Or.inl rfl⟩
theorem Ext.size {v v' : Value} {w w' : World} (h : Ext v v' w w') : w.heap.size ≤ w'.heap.size := h.1.size
theorem Ext.trans {v v1 v2 : Value} {w w1 w2 : World} (h : Ext v v1 w w1) (k : Ext v1 v2 w1 w2) : Ext v v2 w w2 := by
 refine ⟨⟨k.1.os.trans h.1.os, k.1.tape.trans h.1.tape, k.1.output.trans h.1.output, Nat.le_trans h.1.size k.1.size, fun b hb hne => ?_⟩, ?_⟩
 ·rw [k.1.block b (Nat.lt_of_lt_of_le hb h.1.size) ?_, h.1.block b hb hne]
  rcases h.2 with e | ⟨g, e, hg⟩
  ·rw [e]; exact hne
  ·rw [e]; intro e2; injection e2; omega
 ·rcases k.2 with e | ⟨g, e, hg⟩
  ·rcases h.2 with e2 | ⟨g, e2, hg⟩
   ·exact Or.inl (e.trans e2)
   ·exact Or.inr ⟨g, e.trans e2, hg⟩
  ·exact Or.inr ⟨g, e, Nat.le_trans h.1.size hg⟩
theorem Nw.ext {v v' : Value} {a b c : World} (h : Nw a b) (k : Ext v v' b c) : Ext v v' a c := by
 have hs := Below.size h
 refine ⟨⟨k.1.os.trans (Below.os h), k.1.tape.trans (Below.tape h), k.1.output.trans (Below.output h), Nat.le_trans hs k.1.size, fun b hb hne => ?_⟩, ?_⟩
 ·rw [k.1.block b (by omega) hne, Below.block h b hb]
 ·rcases k.2 with e | ⟨g, e, hg⟩
  ·exact Or.inl e
  ·exact Or.inr ⟨g, e, by omega⟩
theorem Ext.nw {v v' : Value} {a b c : World} (h : Ext v v' a b) (k : Nw b c) : Ext v v' a c := by
 have hs := h.1.size
 refine ⟨⟨(Below.os k).trans h.1.os, (Below.tape k).trans h.1.tape, (Below.output k).trans h.1.output, Nat.le_trans hs (Below.size k), fun b hb hne => ?_⟩, h.2⟩
 rw [Below.block k b (by omega), h.1.block b hb hne]
theorem Ext.below {v v' : Value} {w w' : World} {B : Nat} (h : Ext v v' w w') (hv : ∀ g, v.ownBlock = some g → B ≤ g) (hB : B ≤ w.heap.size) : Below B w w' :=
 ⟨h.1.os, h.1.tape, h.1.output, h.1.size, fun k hk => h.1.block k (by omega) (fun e => by have := hv k e.symm; omega)⟩
theorem Ext.apart {v v' : Value} {w w' : World} {b : Nat} (h : Ext v v' w w') (hb : b < w.heap.size) (hne : v.ownBlock ≠ some b) : v'.ownBlock ≠ some b := by
 rcases h.2 with e | ⟨g, e, hg⟩
 ·rw [e]; exact hne
 ·rw [e]; intro e2; injection e2; omega
theorem Ext.cell {v v' : Value} {w w' : World} {b : Nat} (h : Ext v v' w w') (hb : b < w.heap.size) (hne : v.ownBlock ≠ some b) (o : Nat) : w'.cell? ⟨b, o, none⟩ = w.cell? ⟨b, o, none⟩ :=
 World.cell?_of_block (w := w) (a := ⟨b, o, none⟩) (h.1.block b hb (fun e => hne e.symm))
theorem set_grown {w : World} {b o : Nat} {u : Value} : w.grownBy (w.setCell ⟨b, o, none⟩ u) (some b) :=
 ⟨rfl, rfl, rfl, by simp [World.setCell], fun i hi hne => Below.heap_setCell _ _ _ _ (by intro e; apply hne; rw [e])⟩
end Go.Proofs.Ytdjemnbdaddegaa
