/-
  What the specification draws of numbers told as texts: some texts that are not long; each theorem names its conditions.
  What the specification draws as a transform's text: some text that is not long; each theorem names its conditions.
  What the specification draws of affines: some affines; each theorem names its conditions.
  What the specification makes of a text that is spoilt: some text that is not much longer; each theorem names its conditions.
-/
import Derived.Test.YtpfhnedklihdoaaGreatDoorJAS
import Derived.Test.YtpfhnedklihdoaaGreatDoorJAV
import Derived.Deep.DeepCutAuto
import Derived.Test.YtpfhnedklihdoaaGreatDoorJAX
import Derived.Test.YtpfhnedklihdoaaGreatDoorJAT
import Derived.Deep.QuietTactic
import Derived.BigQuiet
namespace Go.Proofs.YtpfhnedklihdoaaGreatDoor
open Go.ChangeShapes Go.WideShapes Go.ChangeAt Go.RowKit
set_option linter.unusedVariables false

theorem Gr.drew' {B : Nat} {a b : World} (h : Gr B a b) : Gr B a b.drew := by
  have h' : a.grownBy b (some B) := h
  exact ⟨h'.os, h'.tape, h'.output, h'.size, h'.block⟩
theorem Cur.nw {w w' : World} {B : Nat} {ca : Option Addr} {len cap n : Nat} (h : Cur w B ca len cap n) (k : Nw w w') : Cur w' B ca len cap n := by
  obtain ⟨k', sd, q1, q2, q3, c0, c1, c2, hf, hB⟩ := h
  have e := fun o => (show w'.cell? ⟨B, o, none⟩ = w.cell? ⟨B, o, none⟩ from World.cell?_of_block (w := w) (a := ⟨B, o, none⟩) (Below.block k B hB))
  exact ⟨k', sd, q1, q2, q3, (e _).trans c0, (e _).trans c1, (e _).trans c2, fun o => (World.frozen?_of_block (w := w) (a := ⟨B, o, none⟩) (Below.block k B hB)).trans (hf o), Nat.lt_of_lt_of_le hB (Below.size k)⟩
theorem app_sz (a b : ByteArray) : (a ++ b).size = a.size + b.size := ByteArray.size_append
set_option maxHeartbeats 1000000 in
theorem num_dig (w : World) (k : Nat) (hk : k ≤ 9) : Calls Tryz.prog 49 #[.int .i64 (k : Int)] w fun e w' => (∃ v : ByteArray, e = .returned (.string v) ∧ v.size = 1) ∧ Nw w w' := by
  have e1 : (((UInt8.ofNat (48 + k)).toNat : Nat) : Int) = 48 + (k : Int) := by
    have : (UInt8.ofNat (48 + k)).toNat = 48 + k := by rw [UInt8.toNat_ofNat']; exact Nat.mod_eq_of_lt (by omega)
    rw [this]; omega
  have hw8 : IntKind.u8.wrap (48 + (k : Int)) = 48 + (k : Int) := by rw [IntKind.wrap_u8]; omega
  have hm8 : (48 + (k : Int)) % 256 = 48 + (k : Int) := by omega
  have hneg : decide ((k : Int) < 0) = false := decide_eq_false (by omega)
  have h10 : decide ((k : Int) < 10) = true := decide_eq_true (by omega)
  have hcv : (convert 22 9 (.slice (some ⟨w.heap.size, 0, none⟩) 1 1)).run Tryz.prog (w.alloc (.cells #[.int .u8 (48 + (k : Int))] 5)) = .ok (.string ⟨#[UInt8.ofNat (48 + k)]⟩) (w.alloc (.cells #[.int .u8 (48 + (k : Int))] 5)) :=
    conv_at (UInt8.ofNat (48 + k)) _ _ (by rw [e1]; simp)
  have hsz : (⟨#[UInt8.ofNat (48 + k)]⟩ : ByteArray).size = 1 := rfl
  generalize (⟨#[UInt8.ofNat (48 + k)]⟩ : ByteArray) = v at *
  clear e1
  go_enter Tryz.func49, Tryz.ntmps49
  go_wp2
  go_ret
  exact ⟨⟨v, rfl, hsz⟩, (Below.refl _ _).alloc (Nat.le_refl _) _⟩
def TextDrawn (m : Nat) (e : Ending) : Prop := ∃ v : ByteArray, e = .returned (.string v) ∧ v.size ≤ m
set_option maxRecDepth 100000 in
set_option maxHeartbeats 8000000 in
theorem decimal_any (w : World) (B : Nat) (ca : Option Addr) (len cap n : Nat) (hl : len ≤ 9223372036854775807) (hn : n ≤ 10000000) (hc : Cur w B ca len cap n) (hd : Code w B ca len) :
    Calls Tryz.prog 34 #[.pointer (some ⟨B, 0, none⟩)] w fun e w' => TextDrawn 20 e ∧ Cur w' B ca len cap (n + 40) ∧ Gr B w w' := by
  have hB := hc.lt
  have HC0 : Hid (Cur w B ca len cap n) := hc
  have DC : Hid (∀ w', Gr B w w' → Code w' B ca len) := fun w' h => Code.below hd (h.below (by omega))
  clear hc hd hB
  go_enter Tryz.func34, Tryz.ntmps34
  go_wp2_with fail
  refine (of_lit w B 1 [⟨#[]⟩, ⟨#[]⟩, ⟨#[45]⟩, ⟨#[43]⟩] (by decide) 9 ca len cap n hl (by omega) (by decide) (by decide) HC0.out (DC.out _ (Gr.refl _ _))).mono ?_
  rintro e w1 ⟨s0, rfl, hs0, hc1, hg1⟩
  have C1 : Hid (Cur w1 B ca len cap (n + 2)) := hc1
  have G1 : Hid (Gr B w w1) := hg1
  clear hc1 hg1 HC0
  go_wp2_with fail
  refine (pick_any w1 B ca len cap (n + 2) 4 hl (by omega) (by omega) (by omega) C1.out (DC.out _ G1.out)).mono ?_
  rintro e w2 ⟨v, rfl, v0, v1, hc2, hb2⟩
  have C2 : Hid (Cur w2 B ca len cap (n + 4)) := hc2
  have G2 : Hid (Gr B w w2) := G1.out.trans (Gr.of_sel hb2)
  obtain ⟨m, rfl⟩ := Int.eq_ofNat_of_zero_le v0
  have hm3 : m ≤ 3 := by omega
  clear hc2 hb2 v0 v1 C1 G1
  go_wp2
  go_loopw [3, 4] (fun v i wr => ∃ (k : Nat) (s : ByteArray), i = .int .i64 (k : Int) ∧ v = .string s ∧ k ≤ 4 ∧ s.size + k ≤ 5 ∧ Cur wr B ca len cap (n + 4 + 2 * (4 - k)) ∧ Gr B w wr) (fun _ i _ => (intOf i).toNat)
  case atStart => exact ⟨1 + m, s0, by go_num, rfl, by omega, by omega, C2.out.mono (by omega), G2.out⟩
  case round =>
    obtain ⟨k, s, rfl, rfl, hk4, hsk, hcr, hgr⟩ := hrel
    have CR : Hid (Cur wr B ca len cap (n + 4 + 2 * (4 - k))) := hcr
    have GR : Hid (Gr B w wr) := hgr
    clear hcr hgr
    by_cases hk0 : 0 < k
    · have dk : decide ((0 : Int) < (k : Int)) = true := by simp; omega
      obtain ⟨k2, hk2⟩ : ∃ k2, k = k2 + 1 := ⟨k - 1, by omega⟩
      subst hk2
      go_wp2_with fail
      refine (pick_any wr B ca len cap _ 10 hl (by omega) (by omega) (by omega) CR.out (DC.out _ GR.out)).mono ?_
      rintro e w3 ⟨v, rfl, v0, v1, hc3, hb3⟩
      have C3 : Hid (Cur w3 B ca len cap (n + 4 + 2 * (4 - (k2 + 1)) + 2)) := hc3
      have G3 : Hid (Gr B w w3) := GR.out.trans (Gr.of_sel hb3)
      obtain ⟨d, rfl⟩ := Int.eq_ofNat_of_zero_le v0
      have hd9 : d ≤ 9 := by omega
      clear hc3 hb3 v0 v1
      go_wp2_with fail
      refine (num_dig w3 d hd9).mono ?_
      rintro e w4 ⟨⟨x, rfl, hx⟩, k4⟩
      have C4 : Hid (Cur w4 B ca len cap (n + 4 + 2 * (4 - (k2 + 1)) + 2)) := C3.out.nw k4
      have G4 : Hid (Gr B w w4) := G3.out.trans (Gr.of_nw k4)
      have hsx : s.size + x.size ≤ 9223372036854775807 := by omega
      clear k4
      go_wp2
      go_roundw
      case rel => exact ⟨k2, s ++ x, by go_num, rfl, by omega, by rw [app_sz]; omega, C4.out.mono (by omega), G4.out⟩
      case measure => simp [intOf]
    · have hk1 : k = 0 := by omega
      subst hk1
      have hs5 : s.size ≤ 5 := by omega
      go_wp2_with fail
      refine (one_any wr B ca len cap _ 2 hl (by omega) (by omega) (by omega) CR.out (DC.out _ GR.out)).mono ?_
      rintro e w3 ⟨b3, rfl, hc3, hb3⟩
      have C3 : Hid (Cur w3 B ca len cap (n + 14)) := hc3.mono (by omega)
      have G3 : Hid (Gr B w w3) := GR.out.trans (Gr.of_sel hb3)
      clear hc3 hb3
      cases b3 with
      | false =>
        go_wp2
        go_ret
        exact ⟨⟨s, rfl, by omega⟩, C3.out.mono (by omega), G3.out⟩
      | true =>
        have hs1 : s.size + (⟨#[46]⟩ : ByteArray).size ≤ 9223372036854775807 := by have : (⟨#[46]⟩ : ByteArray).size = 1 := rfl; omega
        have HS6 : Hid ((s ++ ⟨#[46]⟩).size ≤ 6) := by show _ ≤ _; rw [app_sz]; have : (⟨#[46]⟩ : ByteArray).size = 1 := rfl; omega
        go_wp2_with fail
        refine (pick_any w3 B ca len cap (n + 14) 6 hl (by omega) (by omega) (by omega) C3.out (DC.out _ G3.out)).mono ?_
        rintro e w4 ⟨v, rfl, v0, v1, hc4, hb4⟩
        have C4 : Hid (Cur w4 B ca len cap (n + 16)) := hc4
        have G4 : Hid (Gr B w w4) := G3.out.trans (Gr.of_sel hb4)
        obtain ⟨m2, rfl⟩ := Int.eq_ofNat_of_zero_le v0
        have hm4 : m2 ≤ 5 := by omega
        clear hc4 hb4 v0 v1 C3 G3
        generalize s ++ ⟨#[46]⟩ = s6 at *
        go_wp2
        go_loopw [3, 5] (fun v i wr => ∃ (k : Nat) (s : ByteArray), i = .int .i64 (k : Int) ∧ v = .string s ∧ k ≤ 6 ∧ s.size + k ≤ 12 ∧ Cur wr B ca len cap (n + 16 + 2 * (6 - k)) ∧ Gr B w wr) (fun _ i _ => (intOf i).toNat)
        case atStart => exact ⟨1 + m2, s6, by go_num, rfl, by omega, by have := HS6.out; omega, C4.out.mono (by omega), G4.out⟩
        case round =>
          obtain ⟨k, s, rfl, rfl, hk4, hsk, hcr, hgr⟩ := hrel
          have CR : Hid (Cur wr B ca len cap (n + 16 + 2 * (6 - k))) := hcr
          have GR : Hid (Gr B w wr) := hgr
          clear hcr hgr
          by_cases hk0 : 0 < k
          · have dk : decide ((0 : Int) < (k : Int)) = true := by simp; omega
            obtain ⟨k2, hk2⟩ : ∃ k2, k = k2 + 1 := ⟨k - 1, by omega⟩
            subst hk2
            go_wp2_with fail
            refine (pick_any wr B ca len cap _ 10 hl (by omega) (by omega) (by omega) CR.out (DC.out _ GR.out)).mono ?_
            rintro e w3 ⟨v, rfl, v0, v1, hc3, hb3⟩
            have C3 : Hid (Cur w3 B ca len cap (n + 16 + 2 * (6 - (k2 + 1)) + 2)) := hc3
            have G3 : Hid (Gr B w w3) := GR.out.trans (Gr.of_sel hb3)
            obtain ⟨d, rfl⟩ := Int.eq_ofNat_of_zero_le v0
            have hd9 : d ≤ 9 := by omega
            clear hc3 hb3 v0 v1
            go_wp2_with fail
            refine (num_dig w3 d hd9).mono ?_
            rintro e w4 ⟨⟨x, rfl, hx⟩, k4⟩
            have C4 : Hid (Cur w4 B ca len cap (n + 16 + 2 * (6 - (k2 + 1)) + 2)) := C3.out.nw k4
            have G4 : Hid (Gr B w w4) := G3.out.trans (Gr.of_nw k4)
            have hsx : s.size + x.size ≤ 9223372036854775807 := by omega
            clear k4
            go_wp2
            go_roundw
            case rel => exact ⟨k2, s ++ x, by go_num, rfl, by omega, by rw [app_sz]; omega, C4.out.mono (by omega), G4.out⟩
            case measure => simp [intOf]
          · have hk1 : k = 0 := by omega
            subst hk1
            go_wp2
            go_ret
            exact ⟨⟨s, rfl, by omega⟩, CR.out.mono (by omega), GR.out⟩
set_option maxRecDepth 100000 in
set_option maxHeartbeats 8000000 in
theorem numbersText_any (w : World) (B : Nat) (ca : Option Addr) (len cap n : Nat) (M : Nat) (hM : M ≤ 100) (hl : len ≤ 9223372036854775807) (hn : n ≤ 1000000) (hc : Cur w B ca len cap n) (hd : Code w B ca len) :
    Calls Tryz.prog 19 #[.pointer (some ⟨B, 0, none⟩), .int .i64 (M : Int)] w fun e w' => TextDrawn (23 * M) e ∧ Cur w' B ca len cap (n + 42 * M) ∧ Gr B w w' := by
  have hB := hc.lt
  have HC0 : Hid (Cur w B ca len cap n) := hc
  have DC : Hid (∀ w', Gr B w w' → Code w' B ca len) := fun w' h => Code.below hd (h.below (by omega))
  clear hc hd hB
  go_enter Tryz.func19, Tryz.ntmps19
  go_wp2
  go_loopw [5, 6] (fun v i wr => ∃ (k : Nat) (s : ByteArray), i = .int .i64 (k : Int) ∧ v = .string s ∧ k ≤ M ∧ s.size ≤ 23 * k ∧ Cur wr B ca len cap (n + 42 * k) ∧ Gr B w wr) (fun _ i _ => M - (intOf i).toNat)
  case atStart => exact ⟨0, ⟨#[]⟩, rfl, rfl, by omega, by decide, HC0.out.mono (by omega), Gr.refl _ _⟩
  case round =>
    obtain ⟨k, s, rfl, rfl, hkM, hsk, hcr, hgr⟩ := hrel
    have CR : Hid (Cur wr B ca len cap (n + 42 * k)) := hcr
    have GR : Hid (Gr B w wr) := hgr
    clear hcr hgr
    by_cases hlt : k < M
    · have hkI : (k : Int) < (M : Int) := by omega
      go_upto_if 13 with fail
      go_cut [5] (fun v wx => ∃ s2 : ByteArray, v = .string s2 ∧ s2.size ≤ 23 * k + 3 ∧ Cur wx B ca len cap (n + 42 * k + 2) ∧ Gr B w wx)
      case first =>
        by_cases hk0 : 0 < k
        · have dk : decide ((0 : Int) < (k : Int)) = true := by simp; omega
          go_wp2_with fail
          refine (of_lit wr B 3 [⟨#[32]⟩, ⟨#[44]⟩, ⟨#[32, 44, 32]⟩, ⟨#[32]⟩] (by decide) 9 ca len cap _ hl (by omega) (by decide) (by decide) CR.out (DC.out _ GR.out)).mono ?_
          rintro e w3 ⟨x, rfl, hx, hc3, hg3⟩
          have C3 : Hid (Cur w3 B ca len cap (n + 42 * k + 2)) := hc3
          have G3 : Hid (Gr B w w3) := GR.out.trans hg3
          have hsx : s.size + x.size ≤ 9223372036854775807 := by omega
          clear hc3 hg3
          go_wp2
          go_meet
          exact ⟨s ++ x, rfl, by rw [app_sz]; omega, C3.out, G3.out⟩
        · have dk : decide ((0 : Int) < (k : Int)) = false := decide_eq_false (by omega)
          go_wp2
          go_meet
          exact ⟨s, rfl, by omega, CR.out.mono (by omega), GR.out⟩
      case rest =>
        obtain ⟨s2, rfl, hs2, hc3, hg3⟩ := hcut
        have C3 : Hid (Cur wc B ca len cap (n + 42 * k + 2)) := hc3
        have G3 : Hid (Gr B w wc) := hg3
        clear hc3 hg3
        go_wp2_with fail
        refine (decimal_any wc B ca len cap _ hl (by omega) C3.out (DC.out _ G3.out)).mono ?_
        rintro e w4 ⟨⟨x, rfl, hx⟩, hc4, hg4⟩
        have C4 : Hid (Cur w4 B ca len cap (n + 42 * k + 2 + 40)) := hc4
        have G4 : Hid (Gr B w w4) := G3.out.trans hg4
        have hsx : s2.size + x.size ≤ 9223372036854775807 := by omega
        clear hc4 hg4
        go_wp2
        go_roundw
        case rel => exact ⟨k + 1, s2 ++ x, by go_num, rfl, by omega, by rw [app_sz]; omega, C4.out.mono (by omega), G4.out⟩
        case measure => simp [intOf]; omega
    · have hkM2 : k = M := by omega
      subst hkM2
      go_wp2
      go_ret
      exact ⟨⟨s, rfl, hsk⟩, CR.out, GR.out⟩
end Go.Proofs.YtpfhnedklihdoaaGreatDoor
namespace Go.Proofs.YtpfhnedklihdoaaGreatDoor
open Go.ChangeShapes Go.WideShapes Go.ChangeAt Go.RowKit
set_option linter.unusedVariables false

set_option maxRecDepth 100000 in
set_option maxHeartbeats 8000000 in
theorem transformText_any (w : World) (B : Nat) (ca : Option Addr) (len cap n : Nat) (hl : len ≤ 9223372036854775807) (hn : n ≤ 10000000) (hc : Cur w B ca len cap n) (hd : Code w B ca len) :
    Calls Tryz.prog 25 #[.pointer (some ⟨B, 0, none⟩)] w fun e w' => TextDrawn 100 e ∧ Cur w' B ca len cap (n + 20) ∧ Gr B w w' := by
  have hB := hc.lt
  have HC0 : Hid (Cur w B ca len cap n) := hc
  have DC : Hid (∀ w', Gr B w w' → Code w' B ca len) := fun w' h => Code.below hd (h.below (by omega))
  clear hc hd hB
  go_enter Tryz.func25, Tryz.ntmps25
  go_wp2_with fail
  refine (pick_any w B ca len cap n 4 hl (by omega) (by omega) (by omega) HC0.out (DC.out _ (Gr.refl _ _))).mono ?_
  rintro e w1 ⟨v, rfl, v0, v1, hc1, hb1⟩
  have C1 : Hid (Cur w1 B ca len cap (n + 2)) := hc1
  have G1 : Hid (Gr B w w1) := Gr.of_sel hb1
  obtain ⟨m, rfl⟩ := Int.eq_ofNat_of_zero_le v0
  have hm2 : m ≤ 3 := by omega
  clear hc1 hb1 v0 v1 HC0
  go_wp2
  go_loopw [3, 4] (fun v i wr => ∃ (k : Nat) (s : ByteArray), i = .int .i64 (k : Int) ∧ v = .string s ∧ k ≤ 3 ∧ s.size + 23 * k ≤ 69 ∧ Cur wr B ca len cap (n + 2 + 4 * (3 - k)) ∧ Gr B w wr) (fun _ i _ => (intOf i).toNat)
  case atStart => exact ⟨m, ⟨#[]⟩, rfl, rfl, by omega, by have : (⟨#[]⟩ : ByteArray).size = 0 := rfl; omega, C1.out.mono (by omega), G1.out⟩
  case round =>
    obtain ⟨k, s, rfl, rfl, hk4, hsk, hcr, hgr⟩ := hrel
    have CR : Hid (Cur wr B ca len cap (n + 2 + 4 * (3 - k))) := hcr
    have GR : Hid (Gr B w wr) := hgr
    clear hcr hgr
    by_cases hk0 : 0 < k
    · have dk : decide ((0 : Int) < (k : Int)) = true := by simp; omega
      obtain ⟨k2, hk2⟩ : ∃ k2, k = k2 + 1 := ⟨k - 1, by omega⟩
      subst hk2
      go_wp2_with fail
      refine (of_lit wr B 19 [⟨#[116, 114, 97, 110, 115, 108, 97, 116, 101, 40, 49, 32, 50, 41]⟩, ⟨#[116, 114, 97, 110, 115, 108, 97, 116, 101, 40, 45, 51, 46, 53, 41]⟩, ⟨#[115, 99, 97, 108, 101, 40, 50, 41]⟩, ⟨#[115, 99, 97, 108, 101, 40, 46, 53, 44, 51, 41]⟩, ⟨#[114, 111, 116, 97, 116, 101, 40, 57, 48, 41]⟩, ⟨#[114, 111, 116, 97, 116, 101, 40, 51, 48, 32, 49, 32, 49, 41]⟩, ⟨#[109, 97, 116, 114, 105, 120, 40, 49, 32, 48, 32, 48, 32, 49, 32, 53, 32, 54, 41]⟩, ⟨#[115, 107, 101, 119, 88, 40, 50, 48, 41]⟩, ⟨#[115, 107, 101, 119, 89, 40, 45, 49, 48, 41]⟩, ⟨#[114, 111, 116, 97, 116, 101, 40, 52, 53, 41]⟩] (by decide) 9 ca len cap _ hl (by omega) (by decide) (by decide) CR.out (DC.out _ GR.out)).mono ?_
      rintro e w3 ⟨x, rfl, hx, hc3, hg3⟩
      have C3 : Hid (Cur w3 B ca len cap (n + 2 + 4 * (3 - (k2 + 1)) + 2)) := hc3
      have G3 : Hid (Gr B w w3) := GR.out.trans hg3
      clear hc3 hg3
      go_wp2_with fail
      refine (of_lit w3 B 3 [⟨#[32]⟩, ⟨#[44]⟩, ⟨#[32, 44, 32]⟩, ⟨#[]⟩] (by decide) 9 ca len cap _ hl (by omega) (by decide) (by decide) C3.out (DC.out _ G3.out)).mono ?_
      rintro e w4 ⟨y, rfl, hy, hc4, hg4⟩
      have C4 : Hid (Cur w4 B ca len cap (n + 2 + 4 * (3 - (k2 + 1)) + 4)) := hc4
      have G4 : Hid (Gr B w w4) := G3.out.trans hg4
      clear hc4 hg4
      have a1 : x.size + y.size ≤ 9223372036854775807 := by omega
      have a2 : s.size + (x ++ y).size ≤ 9223372036854775807 := by rw [app_sz]; omega
      go_wp2
      go_roundw
      case rel => exact ⟨k2, s ++ (x ++ y), by go_num, rfl, by omega, by rw [app_sz, app_sz]; omega, C4.out.mono (by omega), G4.out⟩
      case measure => simp [intOf]
    · have hk1 : k = 0 := by omega
      subst hk1
      go_wp2
      go_ret
      exact ⟨⟨s, rfl, by omega⟩, CR.out.mono (by omega), GR.out⟩
end Go.Proofs.YtpfhnedklihdoaaGreatDoor
namespace Go.Proofs.YtpfhnedklihdoaaGreatDoor
open Go.ChangeShapes Go.WideShapes Go.ChangeAt Go.RowKit
set_option linter.unusedVariables false

theorem SixE.gr {w w' : World} {b B : Nat} (h : SixE w b) (k : Gr B w w') (hne : b ≠ B) : SixE w' b := by
  obtain ⟨x, hx⟩ := h
  exact ⟨x, fun j hj => (k.cell hx.lt hne j).trans (hx.1 j hj), fun o => (k.frozen hx.lt hne o).trans (hx.2 o)⟩
set_option maxHeartbeats 4000000 in
theorem readT_some (H1 : OneS) (w : World) (s : ByteArray) (hs : s.size ≤ 600) :
    Calls Tryz.prog 24 #[.string s] w fun e w' => AffSome e ∧ Nw w w' := by
  have hd : decide (600 < (s.size : Int)) = false := decide_eq_false (by omega)
  obtain ⟨W0, hW0⟩ : ∃ W0, w.alloc (.cells #[.int .i64 0, .int .i64 0, .int .i64 0, .int .i64 0, .int .i64 0, .int .i64 0] 24) = W0 := ⟨_, rfl⟩
  have R0 : Hid (SixE W0 w.heap.size) := by show SixE _ _; rw [← hW0]; exact Six.new w 0 0 0 0 0 0 _
  have N0 : Hid (Nw w W0) := by show Nw _ _; rw [← hW0]; exact (Below.refl _ _).alloc (Nat.le_refl _) _
  have HW0 : Hid (_ = W0) := hW0
  clear hW0
  go_enter Tryz.func24, Tryz.ntmps24
  go_wp2_with fail
  rw [HW0.out]
  refine (l7trans_some H1 W0 s hs).mono ?_
  rintro e w1 ⟨⟨a, b, c, d, x, y, ok, rfl⟩, k1⟩
  have N1 : Hid (Nw w w1) := Nw.trans N0.out k1
  obtain ⟨z0, z1, z2, z3, z4, z5, q0, q1, q2, q3, q4, q5, qf⟩ := (R0.out.nw k1).get
  obtain ⟨t0, t1, t2, t3, t4, t5⟩ := sset6 w1 w.heap.size (.int .i64 a) (.int .i64 b) (.int .i64 c) (.int .i64 d) (.int .i64 x) (.int .i64 y) q0 q1 q2 q3 q4 q5
  clear k1
  go_wp2
  refine bodyPost_ret (v := .tuple #[.agg #[.int .i64 a, .int .i64 b, .int .i64 c, .int .i64 d, .int .i64 x, .int .i64 y], .bool ok]) (by simp [results, Tryz.results24, go_sem, t0, t1, t2, t3, t4, t5]) rfl ⟨⟨_, _, _, _, _, _, _, rfl⟩, nw_six N1.out (Nat.le_refl _) _ _ _ _ _ _⟩
def Aff1 (e : Ending) : Prop := ∃ a b c d x y : Int, e = .returned (.agg #[.int .i64 a, .int .i64 b, .int .i64 c, .int .i64 d, .int .i64 x, .int .i64 y])
set_option maxRecDepth 100000 in
set_option maxHeartbeats 8000000 in
theorem affine_any (H1 : OneS) (w : World) (B : Nat) (ca : Option Addr) (len cap n : Nat) (hl : len ≤ 9223372036854775807) (hn : n ≤ 1000000) (hc : Cur w B ca len cap n) (hd : Code w B ca len) :
    Calls Tryz.prog 12 #[.pointer (some ⟨B, 0, none⟩)] w fun e w' => Aff1 e ∧ Cur w' B ca len cap (n + 200) ∧ Gr B w w' := by
  have hB := hc.lt
  have HB : Hid (B < w.heap.size) := hB
  obtain ⟨W0, hW0⟩ : ∃ W0, w.alloc (.cells #[.int .i64 0, .int .i64 0, .int .i64 0, .int .i64 0, .int .i64 0, .int .i64 0] 24) = W0 := ⟨_, rfl⟩
  have R0 : Hid (SixE W0 w.heap.size) := by show SixE _ _; rw [← hW0]; exact Six.new w 0 0 0 0 0 0 _
  have C0 : Hid (Cur W0 B ca len cap n) := by show Cur _ _ _ _ _ _; rw [← hW0]; exact hc.alloc _ _
  have G0 : Hid (Gr B w W0) := by show Gr _ _ _; rw [← hW0]; exact (Gr.refl B w).alloc _
  have DC : Hid (∀ w', Gr B w w' → Code w' B ca len) := fun w' h => Code.below hd (h.below (by omega))
  have HW0 : Hid (_ = W0) := hW0
  have HNB : Hid (w.heap.size ≠ B) := by show _ ≠ _; omega
  clear hc hd hB hW0
  go_enter Tryz.func12, Tryz.ntmps12
  go_wp2_with fail
  rw [HW0.out]
  refine (one_any W0 B ca len cap n 2 hl (by omega) (by omega) (by omega) C0.out (DC.out _ G0.out)).mono ?_
  rintro e w1 ⟨b1, rfl, hc1, hb1⟩
  have R1 : Hid (SixE w1 w.heap.size) := R0.out.gr (Gr.of_sel hb1) HNB.out
  have C1 : Hid (Cur w1 B ca len cap (n + 2)) := hc1
  have G1 : Hid (Gr B w w1) := G0.out.trans (Gr.of_sel hb1)
  clear hc1 hb1 R0 C0 G0 HW0
  go_upto_if 6 with fail
  go_cut [] (fun wx => SixE wx w.heap.size ∧ Cur wx B ca len cap (n + 22) ∧ Gr B w wx)
  case first =>
    cases b1 with
    | false =>
      go_wp2
      go_meet
      exact ⟨R1.out, C1.out.mono (by omega), G1.out⟩
    | true =>
      go_wp2_with fail
      refine (transformText_any w1 B ca len cap _ hl (by omega) C1.out (DC.out _ G1.out)).mono ?_
      rintro e w2 ⟨⟨s, rfl, hs⟩, hc2, hg2⟩
      have R2 : Hid (SixE w2 w.heap.size) := R1.out.gr hg2 HNB.out
      have C2 : Hid (Cur w2 B ca len cap (n + 22)) := hc2
      have G2 : Hid (Gr B w w2) := G1.out.trans hg2
      clear hc2 hg2 R1 C1 G1
      go_wp2_with fail
      refine (readT_some H1 w2 s (by omega)).mono ?_
      rintro e w3 ⟨⟨a, b, c, d, x, y, ok, rfl⟩, k3⟩
      have R3 : Hid (SixE w3 w.heap.size) := R2.out.nw k3
      have C3 : Hid (Cur w3 B ca len cap (n + 22)) := C2.out.nw k3
      have G3 : Hid (Gr B w w3) := G2.out.trans (Gr.of_nw k3)
      clear k3 R2 C2 G2
      obtain ⟨W3, hW3⟩ : ∃ W3, w3.alloc (.cells #[.int .i64 a, .int .i64 b, .int .i64 c, .int .i64 d, .int .i64 x, .int .i64 y] 24) = W3 := ⟨_, rfl⟩
      have R4 : Hid (SixE W3 w.heap.size) := by show SixE _ _; rw [← hW3]; exact R3.out.nw ((Below.refl _ _).alloc (Nat.le_refl _) _)
      have C4 : Hid (Cur W3 B ca len cap (n + 22)) := by show Cur _ _ _ _ _ _; rw [← hW3]; exact C3.out.alloc _ _
      have G4 : Hid (Gr B w W3) := by show Gr _ _ _; rw [← hW3]; exact G3.out.alloc _
      have B4 : SixE W3 w3.heap.size := by rw [← hW3]; exact Six.new w3 _ _ _ _ _ _ _
      obtain ⟨e0, e1, e2, e3, e4, e5, x0, x1, x2, x3, x4, x5, xf⟩ := B4.get
      obtain ⟨z0, z1, z2, z3, z4, z5, q0, q1, q2, q3, q4, q5, qf⟩ := R4.out.get
      obtain ⟨t0, t1, t2, t3, t4, t5⟩ := sset6 W3 w.heap.size (.int .i64 e0) (.int .i64 e1) (.int .i64 e2) (.int .i64 e3) (.int .i64 e4) (.int .i64 e5) q0 q1 q2 q3 q4 q5
      go_upto_region 3 with fail
      cases ok with
      | true =>
        go_wp2
        refine bodyPost_ret (v := .agg #[.int .i64 e0, .int .i64 e1, .int .i64 e2, .int .i64 e3, .int .i64 e4, .int .i64 e5]) (by simp [results, Tryz.results12, go_sem, t0, t1, t2, t3, t4, t5]) rfl ⟨⟨_, _, _, _, _, _, rfl⟩, ?_, ?_⟩
        · exact Cur.mono ((((((C4.out.set HNB.out _ _).set HNB.out _ _).set HNB.out _ _).set HNB.out _ _).set HNB.out _ _).set HNB.out _ _) (by omega)
        · exact (((((G4.out.set (Nat.le_refl _) _ _).set (Nat.le_refl _) _ _).set (Nat.le_refl _) _ _).set (Nat.le_refl _) _ _).set (Nat.le_refl _) _ _).set (Nat.le_refl _) _ _
      | false =>
        clear t0 t1 t2 t3 t4 t5
        go_wp2
        go_meet
        exact ⟨R4.out, C4.out, G4.out⟩
  case rest =>
    obtain ⟨hr, hc, hg⟩ := hcut
    have R5 : Hid (SixE wc w.heap.size) := hr
    have C5 : Hid (Cur wc B ca len cap (n + 22)) := hc
    have G5 : Hid (Gr B w wc) := hg
    clear hr hc hg R1 C1 G1
    go_wp2_with fail
    refine (fixed_gr wc B ca len cap _ hl (by omega) C5.out (DC.out _ G5.out)).mono ?_
    rintro e w2 ⟨v0, rfl, _, hc, hg⟩
    have R6 : Hid (SixE w2 w.heap.size) := R5.out.gr hg HNB.out
    have C6 : Hid (Cur w2 B ca len cap (n + 42)) := hc
    have G6 : Hid (Gr B w w2) := G5.out.trans hg
    clear hc hg R5 C5 G5
    go_wp2_with fail
    refine (fixed_gr w2 B ca len cap _ hl (by omega) C6.out (DC.out _ G6.out)).mono ?_
    rintro e w3 ⟨v1, rfl, _, hc, hg⟩
    have R7 : Hid (SixE w3 w.heap.size) := R6.out.gr hg HNB.out
    have C7 : Hid (Cur w3 B ca len cap (n + 62)) := hc
    have G7 : Hid (Gr B w w3) := G6.out.trans hg
    clear hc hg R6 C6 G6
    go_wp2_with fail
    refine (fixed_gr w3 B ca len cap _ hl (by omega) C7.out (DC.out _ G7.out)).mono ?_
    rintro e w4 ⟨v2, rfl, _, hc, hg⟩
    have R8 : Hid (SixE w4 w.heap.size) := R7.out.gr hg HNB.out
    have C8 : Hid (Cur w4 B ca len cap (n + 82)) := hc
    have G8 : Hid (Gr B w w4) := G7.out.trans hg
    clear hc hg R7 C7 G7
    go_wp2_with fail
    refine (fixed_gr w4 B ca len cap _ hl (by omega) C8.out (DC.out _ G8.out)).mono ?_
    rintro e w5 ⟨v3, rfl, _, hc, hg⟩
    have R9 : Hid (SixE w5 w.heap.size) := R8.out.gr hg HNB.out
    have C9 : Hid (Cur w5 B ca len cap (n + 102)) := hc
    have G9 : Hid (Gr B w w5) := G8.out.trans hg
    clear hc hg R8 C8 G8
    go_wp2_with fail
    refine (fixed_gr w5 B ca len cap _ hl (by omega) C9.out (DC.out _ G9.out)).mono ?_
    rintro e w6 ⟨v4, rfl, _, hc, hg⟩
    have R10 : Hid (SixE w6 w.heap.size) := R9.out.gr hg HNB.out
    have C10 : Hid (Cur w6 B ca len cap (n + 122)) := hc
    have G10 : Hid (Gr B w w6) := G9.out.trans hg
    clear hc hg R9 C9 G9
    go_wp2_with fail
    refine (fixed_gr w6 B ca len cap _ hl (by omega) C10.out (DC.out _ G10.out)).mono ?_
    rintro e w7 ⟨v5, rfl, _, hc, hg⟩
    have R11 : Hid (SixE w7 w.heap.size) := R10.out.gr hg HNB.out
    have C11 : Hid (Cur w7 B ca len cap (n + 142)) := hc
    have G11 : Hid (Gr B w w7) := G10.out.trans hg
    clear hc hg R10 C10 G10
    obtain ⟨z0, z1, z2, z3, z4, z5, q0, q1, q2, q3, q4, q5, qf⟩ := R11.out.get
    obtain ⟨t0, t1, t2, t3, t4, t5⟩ := sset6 w7 w.heap.size (.int .i64 (v0 / 256)) (.int .i64 (v1 / 256)) (.int .i64 (v2 / 256)) (.int .i64 (v3 / 256)) (.int .i64 (v4 / 256)) (.int .i64 (v5 / 256)) q0 q1 q2 q3 q4 q5
    go_wp2
    refine bodyPost_ret (v := .agg #[.int .i64 (v0 / 256), .int .i64 (v1 / 256), .int .i64 (v2 / 256), .int .i64 (v3 / 256), .int .i64 (v4 / 256), .int .i64 (v5 / 256)]) (by simp [results, Tryz.results12, go_sem, t0, t1, t2, t3, t4, t5]) rfl ⟨⟨_, _, _, _, _, _, rfl⟩, ?_, ?_⟩
    · exact Cur.mono ((((((C11.out.set HNB.out _ _).set HNB.out _ _).set HNB.out _ _).set HNB.out _ _).set HNB.out _ _).set HNB.out _ _) (by omega)
    · exact (((((G11.out.set (Nat.le_refl _) _ _).set (Nat.le_refl _) _ _).set (Nat.le_refl _) _ _).set (Nat.le_refl _) _ _).set (Nat.le_refl _) _ _).set (Nat.le_refl _) _ _
def Aff2 (e : Ending) : Prop := ∃ a b c d x y a' b' c' d' x' y' : Int, e = .returned (.tuple #[.agg #[.int .i64 a, .int .i64 b, .int .i64 c, .int .i64 d, .int .i64 x, .int .i64 y], .agg #[.int .i64 a', .int .i64 b', .int .i64 c', .int .i64 d', .int .i64 x', .int .i64 y']])
set_option maxRecDepth 100000 in
set_option maxHeartbeats 8000000 in
theorem drawMul_any (H1 : OneS) (w : World) (ca : Option Addr) (len cap : Nat) (hl : len ≤ 9223372036854775807) (hd : Code w w.heap.size ca len) :
    Calls Tryz.prog 4 #[.slice ca len cap] w fun e w' => Aff2 e ∧ Nw w w' := by
  obtain ⟨W0, hW0⟩ : ∃ W0, (w.alloc (.cells #[.int .i64 0, .int .i64 0, .int .i64 0, .int .i64 0, .int .i64 0, .int .i64 0] 24)).alloc (.cells #[.int .i64 0, .int .i64 0, .int .i64 0, .int .i64 0, .int .i64 0, .int .i64 0] 24) = W0 := ⟨_, rfl⟩
  have hs0 : W0.heap.size = w.heap.size + 1 + 1 := by rw [← hW0]; simp
  have R0 : SixE W0 w.heap.size := by rw [← hW0]; exact (Six.new w 0 0 0 0 0 0 _).nw ((Below.refl _ _).alloc (Nat.le_refl _) _)
  have Q0 : SixE W0 (w.heap.size + 1) := by
    have h := Six.new (w.alloc (.cells #[.int .i64 0, .int .i64 0, .int .i64 0, .int .i64 0, .int .i64 0, .int .i64 0] 24)) 0 0 0 0 0 0 24
    rw [World.size_alloc, hW0] at h
    exact h
  have N0 : Nw w W0 := by rw [← hW0]; exact ((Below.refl _ _).alloc (Nat.le_refl _) _).alloc (by simp) _
  obtain ⟨W, hW⟩ : ∃ W, W0.alloc (.cells #[.slice ca len cap, .int .i64 0, .int .u64 0] 39) = W := ⟨_, rfl⟩
  have R1 : Hid (SixE W w.heap.size) := by show SixE _ _; rw [← hW]; exact R0.nw ((Below.refl _ _).alloc (Nat.le_refl _) _)
  have Q1 : Hid (SixE W (w.heap.size + 1)) := by show SixE _ _; rw [← hW]; exact Q0.nw ((Below.refl _ _).alloc (Nat.le_refl _) _)
  have N1 : Hid (Nw w W) := by show Nw _ _; rw [← hW]; exact N0.alloc (Below.size N0) _
  have C1 : Hid (Cur W (w.heap.size + 1 + 1) ca len cap 0) := by show Cur _ _ _ _ _ _; rw [← hW, ← hs0]; exact cur0 W0 ca len cap
  have D1 : Hid (∀ w', Nw w w' → Code w' (w.heap.size + 1 + 1) ca len) := fun w' h => Code.past hd h (by omega)
  have HW0 : Hid (_ = W0) := hW0
  have HW : Hid (_ = W) := hW
  have HS : Hid (W0.heap.size = w.heap.size + 1 + 1) := hs0
  clear hW0 hW hd hs0 R0 Q0 N0
  have hnw : Hid (∀ x, Gr (w.heap.size + 1 + 1) W x → Nw w x) := fun x h => by
    have h1 := N1.out
    have h' : W.grownBy x (some (w.heap.size + 1 + 1)) := h
    exact ⟨h'.os.trans (Below.os h1), h'.tape.trans (Below.tape h1), h'.output.trans (Below.output h1), Nat.le_trans (Below.size h1) h'.size, fun i hi => (h'.block i (Nat.lt_of_lt_of_le hi (Below.size h1)) (fun e => by have := Option.some.inj e; omega)).trans (Below.block h1 i hi)⟩
  go_enter Tryz.func4, Tryz.ntmps4
  go_wp2_with fail
  rw [HW0.out]
  first | rw [HW.out] | skip
  refine (affine_any H1 W (w.heap.size + 1 + 1) ca len cap 0 hl (by omega) C1.out (D1.out _ N1.out)).mono ?_
  rintro e w2 ⟨⟨a, b, c, d, x, y, rfl⟩, hc2, hg2⟩
  have R2 : Hid (SixE w2 w.heap.size) := R1.out.gr hg2 (by omega)
  have Q2 : Hid (SixE w2 (w.heap.size + 1)) := Q1.out.gr hg2 (by omega)
  have C2 : Hid (Cur w2 (w.heap.size + 1 + 1) ca len cap (0 + 200)) := hc2
  have G2 : Hid (Gr (w.heap.size + 1 + 1) W w2) := hg2
  clear hc2 hg2 R1 Q1 C1 HW HW0
  go_wp2_with fail
  refine (affine_any H1 w2 (w.heap.size + 1 + 1) ca len cap (0 + 200) hl (by omega) C2.out (D1.out _ (hnw.out _ G2.out))).mono ?_
  rintro e w3 ⟨⟨a', b', c', d', x', y', rfl⟩, hc3, hg3⟩
  have R3 : Hid (SixE w3 w.heap.size) := R2.out.gr hg3 (by omega)
  have Q3 : Hid (SixE w3 (w.heap.size + 1)) := Q2.out.gr hg3 (by omega)
  have N3 : Hid (Nw w w3) := hnw.out _ (G2.out.trans hg3)
  clear hc3 hg3 R2 Q2 C2 G2
  obtain ⟨z0, z1, z2, z3, z4, z5, q0, q1, q2, q3, q4, q5, qf⟩ := R3.out.get
  obtain ⟨s0, s1, s2, s3, s4, s5, p0, p1, p2, p3, p4, p5, pf⟩ := Q3.out.get
  have far : ∀ o, (((((((w3.setCell ⟨w.heap.size, 0, none⟩ (.int .i64 a)).setCell ⟨w.heap.size, 1, none⟩ (.int .i64 b)).setCell ⟨w.heap.size, 2, none⟩ (.int .i64 c)).setCell ⟨w.heap.size, 3, none⟩ (.int .i64 d)).setCell ⟨w.heap.size, 4, none⟩ (.int .i64 x)).setCell ⟨w.heap.size, 5, none⟩ (.int .i64 y))).cell? ⟨w.heap.size + 1, o, none⟩ = w3.cell? ⟨w.heap.size + 1, o, none⟩ := fun o => by
    rw [World.cell?_setCell_other _ _ _ _ (fun e => by injection e; omega), World.cell?_setCell_other _ _ _ _ (fun e => by injection e; omega), World.cell?_setCell_other _ _ _ _ (fun e => by injection e; omega), World.cell?_setCell_other _ _ _ _ (fun e => by injection e; omega), World.cell?_setCell_other _ _ _ _ (fun e => by injection e; omega), World.cell?_setCell_other _ _ _ _ (fun e => by injection e; omega)]
  obtain ⟨u0, u1, u2, u3, u4, u5⟩ := sset6 w3 w.heap.size (.int .i64 a) (.int .i64 b) (.int .i64 c) (.int .i64 d) (.int .i64 x) (.int .i64 y) q0 q1 q2 q3 q4 q5
  obtain ⟨WA, hWA⟩ : ∃ WA, ((((((w3.setCell ⟨w.heap.size, 0, none⟩ (.int .i64 a)).setCell ⟨w.heap.size, 1, none⟩ (.int .i64 b)).setCell ⟨w.heap.size, 2, none⟩ (.int .i64 c)).setCell ⟨w.heap.size, 3, none⟩ (.int .i64 d)).setCell ⟨w.heap.size, 4, none⟩ (.int .i64 x)).setCell ⟨w.heap.size, 5, none⟩ (.int .i64 y)) = WA := ⟨_, rfl⟩
  have NA : Hid (Nw w WA) := by show Nw _ _; rw [← hWA]; exact nw_six N3.out (Nat.le_refl _) _ _ _ _ _ _
  have gf : ∀ o, WA.frozen? ⟨w.heap.size + 1, o, none⟩ = false := fun o => by rw [← hWA, World.frozen?_setCell, World.frozen?_setCell, World.frozen?_setCell, World.frozen?_setCell, World.frozen?_setCell, World.frozen?_setCell]; exact pf o
  rw [hWA] at far u0 u1 u2 u3 u4 u5
  replace p0 := (far 0).trans p0
  replace p1 := (far 1).trans p1
  replace p2 := (far 2).trans p2
  replace p3 := (far 3).trans p3
  replace p4 := (far 4).trans p4
  replace p5 := (far 5).trans p5
  obtain ⟨t0, t1, t2, t3, t4, t5⟩ := sset6 WA (w.heap.size + 1) (.int .i64 a') (.int .i64 b') (.int .i64 c') (.int .i64 d') (.int .i64 x') (.int .i64 y') p0 p1 p2 p3 p4 p5
  have far2 : ∀ o, (((((((WA.setCell ⟨w.heap.size + 1, 0, none⟩ (.int .i64 a')).setCell ⟨w.heap.size + 1, 1, none⟩ (.int .i64 b')).setCell ⟨w.heap.size + 1, 2, none⟩ (.int .i64 c')).setCell ⟨w.heap.size + 1, 3, none⟩ (.int .i64 d')).setCell ⟨w.heap.size + 1, 4, none⟩ (.int .i64 x')).setCell ⟨w.heap.size + 1, 5, none⟩ (.int .i64 y'))).cell? ⟨w.heap.size, o, none⟩ = WA.cell? ⟨w.heap.size, o, none⟩ := fun o => by
    rw [World.cell?_setCell_other _ _ _ _ (fun e => by injection e; omega), World.cell?_setCell_other _ _ _ _ (fun e => by injection e; omega), World.cell?_setCell_other _ _ _ _ (fun e => by injection e; omega), World.cell?_setCell_other _ _ _ _ (fun e => by injection e; omega), World.cell?_setCell_other _ _ _ _ (fun e => by injection e; omega), World.cell?_setCell_other _ _ _ _ (fun e => by injection e; omega)]
  have g0 := (far2 0).trans u0
  have g1 := (far2 1).trans u1
  have g2 := (far2 2).trans u2
  have g3 := (far2 3).trans u3
  have g4 := (far2 4).trans u4
  have g5 := (far2 5).trans u5
  have HF : Hid _ := And.intro t0 (And.intro t1 (And.intro t2 (And.intro t3 (And.intro t4 (And.intro t5 (And.intro g0 (And.intro g1 (And.intro g2 (And.intro g3 (And.intro g4 g5))))))))))
  clear t0 t1 t2 t3 t4 t5 g0 g1 g2 g3 g4 g5 u0 u1 u2 u3 u4 u5 far far2
  go_wp2
  obtain ⟨t0, t1, t2, t3, t4, t5, g0, g1, g2, g3, g4, g5⟩ := HF.out
  refine bodyPost_ret (v := .tuple #[.agg #[.int .i64 a, .int .i64 b, .int .i64 c, .int .i64 d, .int .i64 x, .int .i64 y], .agg #[.int .i64 a', .int .i64 b', .int .i64 c', .int .i64 d', .int .i64 x', .int .i64 y']]) (by simp [results, Tryz.results4, go_sem, t0, t1, t2, t3, t4, t5, g0, g1, g2, g3, g4, g5]) rfl ⟨⟨_, _, _, _, _, _, _, _, _, _, _, _, rfl⟩, nw_six NA.out (Nat.le_succ _) _ _ _ _ _ _⟩
end Go.Proofs.YtpfhnedklihdoaaGreatDoor
namespace Go.Proofs.YtpfhnedklihdoaaGreatDoor
open Go.ChangeShapes Go.WideShapes Go.ChangeAt Go.RowKit
set_option linter.unusedVariables false

theorem gr_drewN (B : Nat) (w : World) (n : Nat) : Gr B w (w.drewN n) := ⟨rfl, rfl, rfl, Nat.le_refl _, fun _ _ _ => rfl⟩
theorem nw_drewN3 (w : World) (n : Nat) : Nw w (w.drewN n) := ⟨rfl, rfl, rfl, Nat.le_refl _, fun _ _ => rfl⟩
set_option maxRecDepth 100000 in
set_option maxHeartbeats 8000000 in
theorem spoilt_any (w : World) (B : Nat) (ca : Option Addr) (len cap n : Nat) (t wi : ByteArray) (ht : t.size ≤ 100000) (hw0 : 0 < wi.size) (hw1 : wi.size ≤ 100) (hl : len ≤ 9223372036854775807) (hn : n ≤ 1000000) (hc : Cur w B ca len cap n) (hd : Code w B ca len) :
    Calls Tryz.prog 20 #[.pointer (some ⟨B, 0, none⟩), .string t, .string wi] w fun e w' => TextDrawn (t.size + 2) e ∧ Cur w' B ca len cap (n + 20) ∧ Gr B w w' := by
  have hB := hc.lt
  have HC0 : Hid (Cur w B ca len cap n) := hc
  have DC : Hid (∀ w', Gr B w w' → Code w' B ca len) := fun w' h => Code.below hd (h.below (by omega))
  clear hc hd hB
  obtain ⟨T, hT⟩ : ∃ T, t.size = T := ⟨_, rfl⟩
  rw [hT] at ht ⊢
  go_enter Tryz.func20, Tryz.ntmps20
  go_wp2_with fail
  refine (pick_any w B ca len cap n 3 hl (by omega) (by omega) (by omega) HC0.out (DC.out _ (Gr.refl _ _))).mono ?_
  rintro e w1 ⟨v, rfl, v0, v1, hc1, hb1⟩
  have C1 : Hid (Cur w1 B ca len cap (n + 2)) := hc1
  have G1 : Hid (Gr B w w1) := Gr.of_sel hb1
  obtain ⟨m, rfl⟩ := Int.eq_ofNat_of_zero_le v0
  have hm2 : m ≤ 2 := by omega
  clear hc1 hb1 v0 v1 HC0
  go_wp2
  go_loopw [1, 7] (fun v i wr => ∃ (k : Nat) (s : ByteArray), i = .int .i64 (k : Int) ∧ v = .string s ∧ k ≤ 2 ∧ s.size + k ≤ T + 2 ∧ Cur wr B ca len cap (n + 2 + 6 * (2 - k)) ∧ Gr B w wr) (fun _ i _ => (intOf i).toNat)
  case atStart => exact ⟨m, t, rfl, rfl, by omega, by omega, C1.out.mono (by omega), G1.out⟩
  case round =>
    obtain ⟨k, s, rfl, rfl, hk2, hsk, hcr, hgr⟩ := hrel
    have CR : Hid (Cur wr B ca len cap (n + 2 + 6 * (2 - k))) := hcr
    have GR : Hid (Gr B w wr) := hgr
    clear hcr hgr hT
    by_cases hk0 : 0 < k
    · have dk : decide ((0 : Int) < (k : Int)) = true := by simp; omega
      by_cases hs0 : 0 < s.size
      · have ds : decide ((0 : Int) < (s.size : Int)) = true := by simp; omega
        obtain ⟨k2, hk2⟩ : ∃ k2, k = k2 + 1 := ⟨k - 1, by omega⟩
        subst hk2
        go_wp2_with fail
        refine (pick_any wr B ca len cap _ (s.size : Int) hl (by omega) (by omega) (by omega) CR.out (DC.out _ GR.out)).mono ?_
        rintro e w3 ⟨v, rfl, v0, v1, hc3, hb3⟩
        have C3 : Hid (Cur w3 B ca len cap (n + 2 + 6 * (2 - (k2 + 1)) + 2)) := hc3
        have G3 : Hid (Gr B w w3) := GR.out.trans (Gr.of_sel hb3)
        obtain ⟨i, rfl⟩ := Int.eq_ofNat_of_zero_le v0
        have hi : i < s.size := by omega
        clear hc3 hb3 v0
        go_wp2_with fail
        refine (pick_any w3 B ca len cap _ (wi.size : Int) hl (by omega) (by omega) (by omega) C3.out (DC.out _ G3.out)).mono ?_
        rintro e w4 ⟨v, rfl, v0, v2, hc4, hb4⟩
        obtain ⟨j, rfl⟩ := Int.eq_ofNat_of_zero_le v0
        have hj : j < wi.size := by omega
        have hjI : (j : Int) < (wi.size : Int) := by omega
        have hcv : (convert 22 9 (.slice (some ⟨w4.heap.size, 0, none⟩) 1 1)).run Tryz.prog (w4.alloc (.cells #[.int .u8 (wi[j].toNat : Int)] 5)) = .ok (.string ⟨#[wi[j]]⟩) (w4.alloc (.cells #[.int .u8 (wi[j].toNat : Int)] 5)) :=
          conv_at wi[j] _ _ (by simp)
        have hx1 : (⟨#[wi[j]]⟩ : ByteArray).size = 1 := rfl
        generalize (⟨#[wi[j]]⟩ : ByteArray) = x at *
        have C4 : Hid (Cur w4 B ca len cap (n + 2 + 6 * (2 - (k2 + 1)) + 4)) := hc4
        have G4 : Hid (Gr B w w4) := G3.out.trans (Gr.of_sel hb4)
        clear hc4 hb4 v0
        go_wp2_with fail
        refine (pick_any _ B ca len cap _ 3 hl (by omega) (by omega) (by omega) (C4.out.alloc _ _) (DC.out _ (G4.out.alloc _))).mono ?_
        rintro e w5 ⟨v, rfl, v0, v3, hc5, hb5⟩
        have C5 : Hid (Cur w5 B ca len cap (n + 2 + 6 * (2 - (k2 + 1)) + 6)) := hc5
        have G5 : Hid (Gr B w w5) := (G4.out.alloc _).trans (Gr.of_sel hb5)
        clear hc5 hb5 hcv C3 G3 C4 G4 CR GR
        have i1 : (0 : Int) ≤ (i : Int) := by omega
        have i2 : (i : Int) ≤ (s.size : Int) := by omega
        have i3 : (i : Int) + 1 ≤ (s.size : Int) := by omega
        have i4 : (0 : Int) ≤ (i : Int) + 1 := by omega
        have z1 : (s.extract 0 i).size = i := by rw [ByteArray.size_extract]; omega
        have z2 : (s.extract i s.size).size = s.size - i := by rw [ByteArray.size_extract]; omega
        have z3 : (s.extract (i + 1) s.size).size = s.size - (i + 1) := by rw [ByteArray.size_extract]; omega
        have a1 : (s.extract 0 i).size + x.size ≤ 9223372036854775807 := by omega
        have a2 : (s.extract 0 i ++ x).size + (s.extract i s.size).size ≤ 9223372036854775807 := by rw [app_sz]; omega
        have a3 : (s.extract 0 i ++ x).size + (s.extract (i + 1) s.size).size ≤ 9223372036854775807 := by rw [app_sz]; omega
        have a4 : (s.extract 0 i).size + (s.extract (i + 1) s.size).size ≤ 9223372036854775807 := by omega
        have hw1 : IntKind.i64.wrap ((i : Int) + 1) = (i : Int) + 1 := IntWalk.i64_in _ ⟨by omega, by omega⟩
        rcases (show v = 0 ∨ v = 1 ∨ v = 2 by omega) with rfl | rfl | rfl
        · go_wp2
          go_quiet (fail)
          go_wp2
          go_roundw
          case rel => exact ⟨k2, s.extract 0 i ++ x ++ s.extract i s.size, rfl, rfl, by omega, by rw [app_sz, app_sz]; omega, (C5.out.nw (nw_drewN3 w5 nq)).mono (by omega), G5.out.trans (gr_drewN B w5 nq)⟩
          case measure => simp [intOf]
        · go_wp2
          go_quiet (fail)
          go_wp2
          go_roundw
          case rel => exact ⟨k2, s.extract 0 i ++ x ++ s.extract (i + 1) s.size, rfl, rfl, by omega, by rw [app_sz, app_sz]; omega, (C5.out.nw (nw_drewN3 w5 nq)).mono (by omega), G5.out.trans (gr_drewN B w5 nq)⟩
          case measure => simp [intOf]
        · go_wp2
          go_quiet (fail)
          go_wp2
          go_roundw
          case rel => exact ⟨k2, s.extract 0 i ++ s.extract (i + 1) s.size, rfl, rfl, by omega, by rw [app_sz]; omega, (C5.out.nw (nw_drewN3 w5 nq)).mono (by omega), G5.out.trans (gr_drewN B w5 nq)⟩
          case measure => simp [intOf]
      · have ds : decide ((0 : Int) < (s.size : Int)) = false := decide_eq_false (by omega)
        go_wp2
        go_ret
        exact ⟨⟨s, rfl, by omega⟩, CR.out.mono (by omega), GR.out⟩
    · have dk : decide ((0 : Int) < (k : Int)) = false := decide_eq_false (by omega)
      go_wp2
      go_ret
      exact ⟨⟨s, rfl, by omega⟩, CR.out.mono (by omega), GR.out⟩
set_option maxRecDepth 100000 in
set_option maxHeartbeats 8000000 in
theorem drawNums_any (w : World) (ca : Option Addr) (len cap : Nat) (hl : len ≤ 9223372036854775807) (hd : Code w w.heap.size ca len) :
    Calls Tryz.prog 8 #[.slice ca len cap] w fun e w' => TextDrawn 2000 e ∧ Nw w w' := by
  obtain ⟨W, hW⟩ : ∃ W, w.alloc (.cells #[.slice ca len cap, .int .i64 0, .int .u64 0] 39) = W := ⟨_, rfl⟩
  have NW : Hid (Nw w W) := by show Nw _ _; rw [← hW]; exact (Below.refl _ _).alloc (Nat.le_refl _) _
  have C0 : Hid (Cur W w.heap.size ca len cap 0) := by show Cur _ _ _ _ _ _; rw [← hW]; exact cur0 w ca len cap
  have D0 : Hid (∀ w', Nw w w' → Code w' w.heap.size ca len) := fun w' h => Code.below hd h
  have HW : Hid (_ = W) := hW
  clear hW hd
  go_enter Tryz.func8, Tryz.ntmps8
  go_wp2_with fail
  rw [HW.out]
  refine (pick_any W w.heap.size ca len cap 0 5 hl (by omega) (by omega) (by omega) C0.out (D0.out _ NW.out)).mono ?_
  rintro e w1 ⟨v, rfl, v0, v1, hc1, hb1⟩
  have C1 : Hid (Cur w1 w.heap.size ca len cap 2) := hc1
  have G1 : Hid (Gr w.heap.size W w1) := Gr.of_sel hb1
  obtain ⟨m, rfl⟩ := Int.eq_ofNat_of_zero_le v0
  have hm : m ≤ 4 := by omega
  clear hc1 hb1 v0 v1 C0
  go_wp2_with fail
  refine (one_any w1 w.heap.size ca len cap 2 20 hl (by omega) (by omega) (by omega) C1.out (D0.out _ (Gr.nw NW.out G1.out))).mono ?_
  rintro e w2 ⟨b2, rfl, hc2, hb2⟩
  have C2 : Hid (Cur w2 w.heap.size ca len cap 4) := hc2
  have G2 : Hid (Gr w.heap.size W w2) := G1.out.trans (Gr.of_sel hb2)
  clear hc2 hb2 C1 G1
  go_upto_if 13 with fail
  go_cut [4] (fun i wx => ∃ q : Nat, i = .int .i64 (q : Int) ∧ q ≤ 61 ∧ Cur wx w.heap.size ca len cap 6 ∧ Gr w.heap.size W wx)
  case first =>
    cases b2 with
    | true =>
      go_wp2_with fail
      refine (pick_any w2 w.heap.size ca len cap 4 2 hl (by omega) (by omega) (by omega) C2.out (D0.out _ (Gr.nw NW.out G2.out))).mono ?_
      rintro e w3 ⟨v, rfl, v0, v1, hc3, hb3⟩
      have C3 : Hid (Cur w3 w.heap.size ca len cap 6) := hc3
      have G3 : Hid (Gr w.heap.size W w3) := G2.out.trans (Gr.of_sel hb3)
      obtain ⟨q, rfl⟩ := Int.eq_ofNat_of_zero_le v0
      clear hc3 hb3
      go_wp2
      go_meet
      exact ⟨60 + q, by go_num, by omega, C3.out, G3.out⟩
    | false =>
      go_wp2
      go_meet
      exact ⟨1 + m, by go_num, by omega, C2.out.mono (by omega), G2.out⟩
  case rest =>
    obtain ⟨q, rfl, hq, hc3, hg3⟩ := hcut
    have C3 : Hid (Cur wc w.heap.size ca len cap 6) := hc3
    have G3 : Hid (Gr w.heap.size W wc) := hg3
    clear hc3 hg3 C2 G2
    go_wp2_with fail
    refine (numbersText_any wc w.heap.size ca len cap 6 q (by omega) hl (by omega) C3.out (D0.out _ (Gr.nw NW.out G3.out))).mono ?_
    rintro e w4 ⟨⟨s, rfl, hs⟩, hc4, hg4⟩
    have C4 : Hid (Cur w4 w.heap.size ca len cap (6 + 42 * q)) := hc4
    have G4 : Hid (Gr w.heap.size W w4) := G3.out.trans hg4
    clear hc4 hg4 C3 G3
    go_wp2_with fail
    refine (one_any w4 w.heap.size ca len cap _ 4 hl (by omega) (by omega) (by omega) C4.out (D0.out _ (Gr.nw NW.out G4.out))).mono ?_
    rintro e w5 ⟨b5, rfl, hc5, hb5⟩
    have C5 : Hid (Cur w5 w.heap.size ca len cap (6 + 42 * q + 2)) := hc5
    have G5 : Hid (Gr w.heap.size W w5) := G4.out.trans (Gr.of_sel hb5)
    clear hc5 hb5 C4 G4
    cases b5 with
    | true =>
      go_wp2_with fail
      refine (spoilt_any w5 w.heap.size ca len cap _ s ⟨#[48, 46, 45, 43, 44, 32]⟩ (by omega) (by decide) (by decide) hl (by omega) C5.out (D0.out _ (Gr.nw NW.out G5.out))).mono ?_
      rintro e w6 ⟨⟨t, rfl, ht⟩, hc6, hg6⟩
      have N6 : Hid (Nw w w6) := Gr.nw NW.out (G5.out.trans hg6)
      clear hc6 hg6
      go_wp2
      go_ret
      exact ⟨⟨t, rfl, by omega⟩, N6.out⟩
    | false =>
      have N5 : Hid (Nw w w5) := Gr.nw NW.out G5.out
      go_wp2
      go_ret
      exact ⟨⟨s, rfl, by omega⟩, N5.out⟩
end Go.Proofs.YtpfhnedklihdoaaGreatDoor
