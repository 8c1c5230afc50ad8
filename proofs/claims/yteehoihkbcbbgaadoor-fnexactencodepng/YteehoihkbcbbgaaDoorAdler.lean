/-
  What Adler32 answers, of the program and of the specification; each theorem names its conditions.
-/
import Derived.Test.YteehoihkbcbbgaaDoorBytes
import Derived.BigRegion
import Derived.Handy
namespace Go.Proofs.YteehoihkbcbbgaaDoor
open Go.ChangeShapes Go.WideShapes Go.ChangeAt Go.RowKit
set_option linter.unusedVariables false

def adlStep (p : Int × Int) (z : Int) : Int × Int := ((p.1 + z) % 65521, (p.2 + (p.1 + z) % 65521) % 65521)
def adl (zs : List Int) : Int × Int := zs.foldl adlStep (1, 0)
def adler (zs : List Int) : Int := (adl zs).2 * 65536 + (adl zs).1
theorem adl_snoc (zs : List Int) (z : Int) : adl (zs ++ [z]) = adlStep (adl zs) z := by simp [adl]
theorem take_snoc (zs : List Int) (k : Nat) (h : k < zs.length) : zs.take (k + 1) = zs.take k ++ [zs.getD k 0] := by
  rw [List.take_succ_eq_append_getElem h]; simp [h]
theorem adl_bd (zs : List Int) : 0 ≤ (adl zs).1 ∧ (adl zs).1 < 65521 ∧ 0 ≤ (adl zs).2 ∧ (adl zs).2 < 65521 := by
  rcases List.eq_nil_or_concat zs with rfl | ⟨ys, z, rfl⟩
  · simp [adl]
  · rw [List.concat_eq_append, adl_snoc]; simp only [adlStep]; omega
theorem adler_bd (zs : List Int) : 0 ≤ adler zs ∧ adler zs < 4294967296 := by
  have := adl_bd zs; unfold adler; omega
theorem or_u32 (h l : Int) (h0 : 0 ≤ h) (h1 : h < 65536) (l0 : 0 ≤ l) (l1 : l < 65536) : bits .or .u32 (h * 65536) l = h * 65536 + l := by
  obtain ⟨a, rfl⟩ := Int.eq_ofNat_of_zero_le h0
  obtain ⟨b, rfl⟩ := Int.eq_ofNat_of_zero_le l0
  have ha : a < 65536 := by omega
  have hb : b < 65536 := by omega
  have e1 : (a : Int) * 65536 = ((a * 65536 : Nat) : Int) := by omega
  rw [e1]
  have h := (bits_nat .u32 32 (by decide) (fun n h0 h2 => by rw [IntKind.wrap_u32]; omega) (a * 65536) b (by omega) (by omega)).2
  rw [h]
  have h2 : a * 65536 ||| b = a * 65536 + b := by
    have := Nat.two_pow_add_eq_or_of_lt (i := 16) (b := b) (by omega) a
    rw [Nat.mul_comm] at this
    exact this.symm
  rw [h2]; omega
theorem u8_get (zs : List Int) (h8 : ∀ z ∈ zs, 0 ≤ z ∧ z ≤ 255) (k : Nat) (h : k < zs.length) : 0 ≤ zs.getD k 0 ∧ zs.getD k 0 ≤ 255 := by
  have e : zs.getD k 0 = zs[k] := by simp [h]
  rw [e]; exact h8 _ (List.getElem_mem _)

set_option maxHeartbeats 1000000 in
theorem iadler (w : World) (a : Option Addr) (cap : Nat) (zs : List Int) (hz : Row .u8 w a zs) (hl : zs.length ≤ 1048576) (h8 : ∀ z ∈ zs, 0 ≤ z ∧ z ≤ 255) :
    Calls Tryd.prog 69 #[.slice a zs.length cap] w fun e w' => e = .returned (.int .u32 (adler zs)) ∧ w' = w := by
  have H8 : Hid _ := h8
  clear h8
  go_enter Tryd.func69, Tryd.ntmps69
  go_wp2
  go_loop [3, 4, 9] (fun x y i => ∃ k : Nat, k ≤ zs.length ∧ i = .int .i64 k ∧ x = .int .u32 (adl (zs.take k)).1 ∧ y = .int .u32 (adl (zs.take k)).2) (fun _ _ i => zs.length - (intOf i).toNat)
  case atStart => exact ⟨0, Nat.zero_le _, rfl, rfl, rfl⟩
  case round =>
    obtain ⟨k, hk, rfl, rfl, rfl⟩ := hrel
    have hb := adl_bd (zs.take k)
    by_cases hlt : k < zs.length
    · rcases hz with rfl | ⟨b, off, rfl, hb2, hc⟩
      · exact absurd hlt (by simp)
      have c0 := hc k hlt
      have hz := u8_get zs H8.out k hlt
      have hs := adl_snoc (zs.take k) (zs.getD k 0)
      rw [← take_snoc zs k hlt] at hs
      have HS : Hid _ := hs
      clear hs hc
      generalize zs.getD k 0 = z at *
      generalize hp : adl (zs.take k) = p at *
      obtain ⟨x, y⟩ := p
      dsimp only at hb
      clear hp
      go_wp2
      go_round
      case rel => exact ⟨k + 1, by omega, by go_num, by rw [HS.out]; simp only [adlStep]; try go_num, by rw [HS.out]; simp only [adlStep]; try go_num⟩
      case measure => simp [intOf]; omega
    · have e : k = zs.length := by omega
      subst e
      have ho := or_u32 (adl (zs.take zs.length)).2 (adl (zs.take zs.length)).1 (by omega) (by omega) (by omega) (by omega)
      have HO : Hid (adler zs = (adl (zs.take zs.length)).2 * 65536 + (adl (zs.take zs.length)).1) := by show _ = _; rw [List.take_length]; rfl
      generalize (adl (zs.take zs.length)).2 = y at *
      generalize (adl (zs.take zs.length)).1 = x at *
      go_wp2
      go_ret
      exact ⟨by rw [HO.out]; rfl, rfl⟩
set_option maxHeartbeats 1000000 in
theorem sl3adler (w : World) (a : Option Addr) (cap : Nat) (zs : List Int) (hz : Row .u8 w a zs) (hl : zs.length ≤ 1048576) (h8 : ∀ z ∈ zs, 0 ≤ z ∧ z ≤ 255) :
    Calls Tryd.prog 74 #[.slice a zs.length cap] w fun e w' => e = .returned (.int .u32 (adler zs)) ∧ w' = w := by
  have H8 : Hid _ := h8
  clear h8
  go_enter Tryd.func74, Tryd.ntmps74
  go_wp2
  go_loop [3, 4, 9] (fun x y i => ∃ k : Nat, k ≤ zs.length ∧ i = .int .i64 k ∧ x = .int .i64 (adl (zs.take k)).1 ∧ y = .int .i64 (adl (zs.take k)).2) (fun _ _ i => zs.length - (intOf i).toNat)
  case atStart => exact ⟨0, Nat.zero_le _, rfl, rfl, rfl⟩
  case round =>
    obtain ⟨k, hk, rfl, rfl, rfl⟩ := hrel
    have hb := adl_bd (zs.take k)
    by_cases hlt : k < zs.length
    · rcases hz with rfl | ⟨b, off, rfl, hb2, hc⟩
      · exact absurd hlt (by simp)
      have c0 := hc k hlt
      have hz := u8_get zs H8.out k hlt
      have hs := adl_snoc (zs.take k) (zs.getD k 0)
      rw [← take_snoc zs k hlt] at hs
      have HS : Hid _ := hs
      clear hs hc
      generalize zs.getD k 0 = z at *
      generalize hp : adl (zs.take k) = p at *
      obtain ⟨x, y⟩ := p
      dsimp only at hb
      clear hp
      go_wp2
      go_round
      case rel => exact ⟨k + 1, by omega, by go_num, by rw [HS.out]; simp only [adlStep]; try go_num, by rw [HS.out]; simp only [adlStep]; try go_num⟩
      case measure => simp [intOf]; omega
    · have e : k = zs.length := by omega
      subst e
      have HO : Hid (adler zs = (adl (zs.take zs.length)).2 * 65536 + (adl (zs.take zs.length)).1) := by show _ = _; rw [List.take_length]; rfl
      generalize (adl (zs.take zs.length)).2 = y at *
      generalize (adl (zs.take zs.length)).1 = x at *
      go_wp2
      go_ret
      exact ⟨by rw [HO.out]; rfl, rfl⟩
end Go.Proofs.YteehoihkbcbbgaaDoor
