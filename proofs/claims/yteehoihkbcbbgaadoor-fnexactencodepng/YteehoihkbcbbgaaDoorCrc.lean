/-
  What Crc32 answers, of the program and of the specification; each theorem names its conditions.
-/
import Derived.Test.YteehoihkbcbbgaaDoorAdler
namespace Go.Proofs.YteehoihkbcbbgaaDoor
open Go.ChangeShapes Go.WideShapes Go.ChangeAt Go.RowKit
set_option linter.unusedVariables false

def crc1 (c : Int) : Int := if c % 2 = 0 then c / 2 else bits .xor .u32 (c / 2) 3988292384
def crcN : Nat → Int → Int
  | 0, c => c
  | n + 1, c => crc1 (crcN n c)
def crcByte (c z : Int) : Int := crcN 8 (bits .xor .u32 c z)
def crcs (zs : List Int) : Int := zs.foldl crcByte 4294967295
def crc (zs : List Int) : Int := bits .xor .u32 (crcs zs) 4294967295
theorem crcs_snoc (zs : List Int) (z : Int) : crcs (zs ++ [z]) = crcByte (crcs zs) z := by simp [crcs]
theorem xor_u32 (a b : Int) (ha : 0 ≤ a ∧ a < 4294967296) (hb : 0 ≤ b ∧ b < 4294967296) : 0 ≤ bits .xor .u32 a b ∧ bits .xor .u32 a b < 4294967296 := by
  unfold bits
  rw [IntKind.wrap_u32]
  omega
theorem and_u32 (a : Int) (ha : 0 ≤ a ∧ a < 4294967296) : bits .and .u32 a 1 = a % 2 := by
  obtain ⟨n, rfl⟩ := Int.eq_ofNat_of_zero_le ha.1
  have h := (bits_nat .u32 32 (by decide) (fun n h0 h2 => by rw [IntKind.wrap_u32]; omega) n 1 (by omega) (by omega)).1
  have e : ((1 : Nat) : Int) = 1 := rfl
  rw [e] at h
  rw [h, Nat.and_one_is_mod]; omega
theorem xor_max (x : Int) : bits .xor .u32 IntKind.u32.max x = bits .xor .u32 x 4294967295 := by
  have e : IntKind.u32.max = 4294967295 := rfl
  rw [e]; simp only [bits]; rw [BitVec.xor_comm]
theorem crc1_bd (c : Int) (h : 0 ≤ c ∧ c < 4294967296) : 0 ≤ crc1 c ∧ crc1 c < 4294967296 := by
  unfold crc1; split
  · omega
  · exact xor_u32 _ _ (by omega) (by omega)
theorem crcN_bd (n : Nat) (c : Int) (h : 0 ≤ c ∧ c < 4294967296) : 0 ≤ crcN n c ∧ crcN n c < 4294967296 := by
  induction n with
  | zero => exact h
  | succ n ih => exact crc1_bd _ ih
theorem crcs_bd (zs : List Int) : 0 ≤ crcs zs ∧ crcs zs < 4294967296 := by
  rcases List.eq_nil_or_concat zs with rfl | ⟨ys, z, rfl⟩
  · simp [crcs]
  · rw [List.concat_eq_append, crcs_snoc]; unfold crcByte
    refine crcN_bd 8 _ ?_
    unfold bits; rw [IntKind.wrap_u32]; omega
theorem crc_bd (zs : List Int) : 0 ≤ crc zs ∧ crc zs < 4294967296 := xor_u32 _ _ (crcs_bd zs) (by omega)

theorem icrcStep (w : World) (c : Int) (h : 0 ≤ c ∧ c < 4294967296) :
    Calls Tryd.prog 102 #[.int .u32 c] w fun e w' => e = .returned (.int .u32 (crc1 c)) ∧ w' = w := by
  have ha := and_u32 c h
  obtain ⟨h0, h1⟩ := h
  by_cases h2 : c % 2 = 0
  · have HE : Hid (crc1 c = c / 2) := by show _ = _; unfold crc1; rw [if_pos h2]
    have hd : (c % 2 == 0) = true := by simp [h2]
    clear h2
    go_enter Tryd.func102, Tryd.ntmps102
    go_wp2
    go_ret
    exact ⟨by rw [HE.out]; rfl, rfl⟩
  · have HE : Hid (crc1 c = bits .xor .u32 (c / 2) 3988292384) := by show _ = _; unfold crc1; rw [if_neg h2]
    have hd : (c % 2 == 0) = false := by simp [h2]
    clear h2
    go_enter Tryd.func102, Tryd.ntmps102
    go_wp2
    go_ret
    exact ⟨by rw [HE.out]; rfl, rfl⟩

set_option maxHeartbeats 1000000 in
theorem icrc (w : World) (a : Option Addr) (cap : Nat) (zs : List Int) (hz : Row .u8 w a zs) (hl : zs.length ≤ 1048576) (h8 : ∀ z ∈ zs, 0 ≤ z ∧ z ≤ 255) :
    Calls Tryd.prog 68 #[.slice a zs.length cap] w fun e w' => e = .returned (.int .u32 (crc zs)) ∧ w' = w := by
  have H8 : Hid _ := h8
  clear h8
  go_enter Tryd.func68, Tryd.ntmps68
  go_wp2
  go_loop [3, 8] (fun x i => ∃ k : Nat, k ≤ zs.length ∧ i = .int .i64 k ∧ x = .int .u32 (crcs (zs.take k))) (fun _ i => zs.length - (intOf i).toNat)
  case atStart => exact ⟨0, Nat.zero_le _, rfl, rfl⟩
  case round =>
    obtain ⟨k, hk, rfl, rfl⟩ := hrel
    have hb := crcs_bd (zs.take k)
    by_cases hlt : k < zs.length
    · rcases hz with rfl | ⟨b, off, rfl, hb2, hc⟩
      · exact absurd hlt (by simp)
      have c0 := hc k hlt
      have hz := u8_get zs H8.out k hlt
      have hs := crcs_snoc (zs.take k) (zs.getD k 0)
      rw [← take_snoc zs k hlt] at hs
      have HS : Hid _ := hs
      clear hs hc
      generalize zs.getD k 0 = z at *
      generalize crcs (zs.take k) = x at *
      have HX : Hid _ := crcN_bd
      have hx := xor_u32 x z hb (by omega)
      go_wp2
      go_loop [3, 16] (fun y i => ∃ j : Nat, j ≤ 8 ∧ i = .int .i64 j ∧ y = .int .u32 (crcN j (bits .xor .u32 x z))) (fun _ i => 8 - (intOf i).toNat)
      case atStart => exact ⟨0, by omega, rfl, rfl⟩
      case round =>
        obtain ⟨j, hj, rfl, rfl⟩ := hrel
        have hbj := HX.out j _ hx
        by_cases hl8 : j < 8
        · have HC : Hid _ := icrcStep w (crcN j (bits .xor .u32 x z)) hbj
          go_wp2_with fail
          refine Calls.mono HC.out ?_
          rintro e w1 ⟨rfl, rfl⟩
          go_wp2
          go_round
          case rel => exact ⟨j + 1, by omega, by go_num, rfl⟩
          case measure => simp [intOf]; omega
        · have e : j = 8 := by omega
          subst e
          go_wp2
          go_round
          case rel => exact ⟨k + 1, by omega, by go_num, by rw [HS.out]; rfl⟩
          case measure => simp [intOf]; omega
    · have e : k = zs.length := by omega
      subst e
      have HO : Hid (crc zs = bits .xor .u32 (crcs (zs.take zs.length)) 4294967295) := by show _ = _; rw [List.take_length]; rfl
      generalize crcs (zs.take zs.length) = x at *
      go_wp2
      go_ret
      exact ⟨by rw [HO.out, ← xor_max]; rfl, rfl⟩
set_option maxHeartbeats 1000000 in
theorem sl3crc (w : World) (a : Option Addr) (cap : Nat) (zs : List Int) (hz : Row .u8 w a zs) (hl : zs.length ≤ 1048576) (h8 : ∀ z ∈ zs, 0 ≤ z ∧ z ≤ 255) :
    Calls Tryd.prog 44 #[.slice a zs.length cap] w fun e w' => e = .returned (.int .u32 (crc zs)) ∧ w' = w := by
  have H8 : Hid _ := h8
  clear h8
  go_enter Tryd.func44, Tryd.ntmps44
  go_wp2
  go_loop [3, 9] (fun x i => ∃ k : Nat, k ≤ zs.length ∧ i = .int .i64 k ∧ x = .int .u32 (crcs (zs.take k))) (fun _ i => zs.length - (intOf i).toNat)
  case atStart => exact ⟨0, Nat.zero_le _, rfl, rfl⟩
  case round =>
    obtain ⟨k, hk, rfl, rfl⟩ := hrel
    have hb := crcs_bd (zs.take k)
    by_cases hlt : k < zs.length
    · rcases hz with rfl | ⟨b, off, rfl, hb2, hc⟩
      · exact absurd hlt (by simp)
      have c0 := hc k hlt
      have hz := u8_get zs H8.out k hlt
      have hs := crcs_snoc (zs.take k) (zs.getD k 0)
      rw [← take_snoc zs k hlt] at hs
      have HS : Hid _ := hs
      clear hs hc
      generalize zs.getD k 0 = z at *
      generalize crcs (zs.take k) = x at *
      have HX : Hid _ := crcN_bd
      have hx := xor_u32 x z hb (by omega)
      go_wp2
      go_loop [3, 6] (fun y i => ∃ j : Nat, j ≤ 8 ∧ i = .int .i64 j ∧ y = .int .u32 (crcN j (bits .xor .u32 x z))) (fun _ i => 8 - (intOf i).toNat)
      case atStart => exact ⟨0, by omega, rfl, rfl⟩
      case round =>
        obtain ⟨j, hj, rfl, rfl⟩ := hrel
        have hbj := HX.out j _ hx
        by_cases hl8 : j < 8
        · have hand := and_u32 (crcN j (bits .xor .u32 x z)) hbj
          have HE : Hid (crcN (j + 1) (bits .xor .u32 x z) = crc1 (crcN j (bits .xor .u32 x z))) := rfl
          generalize crcN j (bits .xor .u32 x z) = y at *
          by_cases h2 : y % 2 = 0
          · have HF : Hid (crc1 y = y / 2) := by show _ = _; unfold crc1; rw [if_pos h2]
            have hd : (y % 2 == 1) = false := by simp [h2]
            clear h2
            go_wp2
            go_round
            case rel => exact ⟨j + 1, by omega, by go_num, by rw [HE.out, HF.out]⟩
            case measure => simp [intOf]; omega
          · have HF : Hid (crc1 y = bits .xor .u32 (y / 2) 3988292384) := by show _ = _; unfold crc1; rw [if_neg h2]
            have hd : (y % 2 == 1) = true := by simp; omega
            clear h2
            go_wp2
            go_round
            case rel => exact ⟨j + 1, by omega, by go_num, by rw [HE.out, HF.out]⟩
            case measure => simp [intOf]; omega
        · have e : j = 8 := by omega
          subst e
          go_wp2
          go_round
          case rel => exact ⟨k + 1, by omega, by go_num, by rw [HS.out]; rfl⟩
          case measure => simp [intOf]; omega
    · have e : k = zs.length := by omega
      subst e
      have HO : Hid (crc zs = bits .xor .u32 (crcs (zs.take zs.length)) 4294967295) := by show _ = _; rw [List.take_length]; rfl
      generalize crcs (zs.take zs.length) = x at *
      go_wp2
      go_ret
      exact ⟨by rw [HO.out]; rfl, rfl⟩
end Go.Proofs.YteehoihkbcbbgaaDoor
