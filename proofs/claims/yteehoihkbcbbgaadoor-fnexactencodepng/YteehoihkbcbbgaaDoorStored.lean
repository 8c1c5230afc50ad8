/-
  What PackStoredOf answers, of the program and of the specification; each theorem names its conditions.
-/
import Derived.Test.YteehoihkbcbbgaaDoorIFix
namespace Go.Proofs.YteehoihkbcbbgaaDoor
open Go.ChangeShapes Go.WideShapes Go.ChangeAt Go.RowKit
set_option linter.unusedVariables false

/-- The bytes that a stored block has. -/
def stored (ds : List Nat) : List Nat := [1] ++ [ds.length % 256] ++ [ds.length / 256] ++ [(65535 - ds.length) % 256] ++ [(65535 - ds.length) / 256] ++ ds
theorem xor_nat (n : Nat) (h : n < 65536) : n ^^^ 65535 = 65535 - n := by
  have e : (BitVec.ofNat 16 n ^^^ BitVec.allOnes 16).toNat = (~~~ (BitVec.ofNat 16 n)).toNat := by rw [BitVec.xor_allOnes]
  rw [BitVec.toNat_xor, BitVec.toNat_not, BitVec.toNat_ofNat, BitVec.toNat_allOnes] at e
  have e2 : n % 2 ^ 16 = n := Nat.mod_eq_of_lt (by omega)
  rw [e2] at e
  exact e
theorem xor_all (n : Nat) (h : n < 65536) : bits .xor .i64 (n : Int) 65535 = ((65535 - n : Nat) : Int) := by
  have e1 : (65535 : Int) = ((65535 : Nat) : Int) := rfl
  rw [e1]
  have ha : n % 2 ^ IntKind.i64.bits = n := Nat.mod_eq_of_lt (by show n < 2 ^ 64; omega)
  have hb : 65535 % 2 ^ IntKind.i64.bits = 65535 := rfl
  simp only [bits, BitVec.ofInt_natCast, BitVec.toNat_xor, BitVec.toNat_ofNat, ha, hb]
  rw [xor_nat n h, IntKind.wrap_i64]; omega
set_option maxHeartbeats 4000000 in
theorem istored (W : World) (b cap : Nat) (ds : List Nat) (hl : ds.length ≤ 6000) (h8 : ∀ d ∈ ds, d < 256) (hb : b < W.heap.size) (hc : ∀ i, i < ds.length → W.cell? ⟨b, 0 + i, none⟩ = some (.int .u8 ((ds.getD i 0 : Nat) : Int))) :
    Calls Tryd.prog 9 #[.slice (some ⟨b, 0, none⟩) ds.length cap] W fun e w' => ∃ g c, e = .returned (.tuple #[.slice (some ⟨g, 0, none⟩) (stored ds).length c, .bool true]) ∧ Gave W w' g (stored ds) c := by
  have hd1 : decide ((6000 : Int) < (ds.length : Int)) = false := by simp; omega
  have hx := xor_all ds.length (by omega)
  have HN : Hid (∀ (W' : World) (S : Nat) (bs : List Nat) (n k : Nat), n < 65536 → k ≤ 16 → bs.length ≤ 900000 → (∀ x ∈ bs, x < 256) → Sink W' S bs 0 → Calls Tryd.prog 23 #[.iface 36 (.pointer (some ⟨S, 0, none⟩)), .int .i64 (n : Int), .int .i64 (k : Int)] W' fun e w' => e = .returned (.tuple #[]) ∧ Sink w' S (puts (bs, 0) (bitsOf n k)).1 (puts (bs, 0) (bitsOf n k)).2 ∧ Below S W' w') :=
    fun W' S bs n k h1 h2 h3 h4 h5 => putNumber_any W' S (bs, 0) n k h1 h2 h3 ⟨by show 0 < 8; omega, h4, fun h => absurd rfl h⟩ h5
  have HT : Hid (∀ i, i < ds.length → ds.getD i 0 < 256) := fun i hi => by
    have e : ds.getD i 0 = ds[i] := by simp [hi]
    rw [e]; exact h8 _ (List.getElem_mem _)
  have HM : Hid (∀ i, ∀ x ∈ [1] ++ [ds.length % 256] ++ [ds.length / 256] ++ [(65535 - ds.length) % 256] ++ [(65535 - ds.length) / 256] ++ ds.take i, x < 256) := by
    intro i x hx
    simp at hx
    rcases hx with rfl | rfl | rfl | rfl | rfl | hx
    · omega
    · omega
    · omega
    · omega
    · omega
    · exact h8 x (List.mem_of_mem_take hx)
  have HC : Hid _ := hc
  clear hc h8
  go_enter Tryd.func9, Tryd.ntmps9
  go_wp2_with fail
  refine Calls.mono (putHead_any _ _ (sink_new W)) ?_
  rintro e w1 ⟨rfl, h1, h2⟩
  have HS1 : Hid (Sink w1 W.heap.size (puts (puts ([], 0) (bitsOf 1 1)) (bitsOf 0 2)).1 (puts (puts ([], 0) (bitsOf 1 1)) (bitsOf 0 2)).2) := h1
  have HB1 : Hid (Below W.heap.size W w1) := ((Below.refl W.heap.size W).alloc (Nat.le_refl _) _).trans h2
  clear h1 h2
  go_wp2_with fail
  refine Calls.mono (putNumber_any w1 W.heap.size _ 0 5 (by omega) (by omega) (by decide) (puts_fine _ _ _ (puts_fine _ _ _ ⟨by decide, by simp, fun h => absurd rfl h⟩)) HS1.out) ?_
  rw [puts_head]
  rintro e w2 ⟨rfl, h1, h2⟩
  have HS2 : Hid (Sink w2 W.heap.size [1] 0) := h1
  have HB2 : Hid (Below W.heap.size W w2) := HB1.out.trans h2
  clear h1 h2 HS1 HB1
  go_wp2_with fail
  refine Calls.mono (HN.out w2 W.heap.size [1] ds.length 16 (by omega) (by omega) (by simp) (by simp) HS2.out) ?_
  rw [puts16 _ _ (by omega)]
  rintro e w3 ⟨rfl, h1, h2⟩
  have HS3 : Hid (Sink w3 W.heap.size ([1] ++ [ds.length % 256] ++ [ds.length / 256]) 0) := h1
  have HB3 : Hid (Below W.heap.size W w3) := HB2.out.trans h2
  clear h1 h2 HS2 HB2
  go_wp2_with fail
  refine Calls.mono (HN.out w3 W.heap.size ([1] ++ [ds.length % 256] ++ [ds.length / 256]) (65535 - ds.length) 16 (by omega) (by omega) (by simp) (by intro x hx; simp at hx; omega) HS3.out) ?_
  rw [puts16 _ _ (by omega)]
  rintro e w4 ⟨rfl, h1, h2⟩
  have HS4 : Hid (Sink w4 W.heap.size ([1] ++ [ds.length % 256] ++ [ds.length / 256] ++ [(65535 - ds.length) % 256] ++ [(65535 - ds.length) / 256]) 0) := h1
  have HB4 : Hid (Below W.heap.size W w4) := HB3.out.trans h2
  clear h1 h2 HS3 HB3 hx
  go_wp2
  go_loopw [31] (fun i wr => ∃ k : Nat, k ≤ ds.length ∧ i = .int .i64 k ∧ Sink wr W.heap.size ([1] ++ [ds.length % 256] ++ [ds.length / 256] ++ [(65535 - ds.length) % 256] ++ [(65535 - ds.length) / 256] ++ ds.take k) 0 ∧ Below W.heap.size W wr) (fun i _ => ds.length - (intOf i).toNat)
  case atStart => exact ⟨0, Nat.zero_le _, rfl, by simpa using HS4.out, HB4.out⟩
  case round =>
    clear HS4 HB4
    obtain ⟨k, hk, rfl, h1, h2⟩ := hrel
    have HS : Hid (Sink wr W.heap.size ([1] ++ [ds.length % 256] ++ [ds.length / 256] ++ [(65535 - ds.length) % 256] ++ [(65535 - ds.length) / 256] ++ ds.take k) 0) := h1
    have HB : Hid (Below W.heap.size W wr) := h2
    clear h1 h2
    by_cases hlt : k < ds.length
    · have c0 : wr.cell? ⟨b, k, none⟩ = some (.int .u8 ((ds.getD k 0 : Nat) : Int)) := by
        have h := (HB.out.cell (p := ⟨b, 0 + k, none⟩) hb).trans (HC.out k hlt)
        rwa [Nat.zero_add] at h
      have hd := HT.out k hlt
      have HP := HN.out wr W.heap.size _ (ds.getD k 0) 8 (by omega) (by omega) (by simp; omega) (HM.out k) HS.out
      rw [puts8 _ _ hd] at HP
      have HE : Hid ([1] ++ [ds.length % 256] ++ [ds.length / 256] ++ [(65535 - ds.length) % 256] ++ [(65535 - ds.length) / 256] ++ ds.take k ++ [ds.getD k 0] = [1] ++ [ds.length % 256] ++ [ds.length / 256] ++ [(65535 - ds.length) % 256] ++ [(65535 - ds.length) / 256] ++ ds.take (k + 1)) := by
        show _ = _
        rw [List.take_succ_eq_append_getElem hlt]; simp [hlt]
      rw [HE.out] at HP
      have HP' : Hid _ := HP
      clear HP HE
      generalize ds.getD k 0 = d at *
      go_wp2_with fail
      refine Calls.mono HP'.out ?_
      rintro e w5 ⟨rfl, h1, h2⟩
      have HS5 : Hid _ := h1
      have HB5 : Hid (Below W.heap.size W w5) := HB.out.trans h2
      clear h1 h2
      go_wp2
      go_roundw
      case rel => exact ⟨k + 1, by omega, by go_num, HS5.out, HB5.out⟩
      case measure => simp [intOf]; omega
    · have e : k = ds.length := by omega
      subst e
      have hS := HS.out
      rw [List.take_length] at hS
      change Sink wr W.heap.size (stored ds) 0 at hS
      obtain ⟨v, h0, h1, hf, hSz, hown⟩ := hS
      have hlen : (stored ds).length = ds.length + 5 := by simp [stored]
      rcases hown.2 with ⟨_, h⟩ | ⟨g, cap', cur, rfl, hg1, hg2, hg3, hg4, hg5, hg6⟩
      · omega
      have HG : Hid (Gave W wr g (stored ds) cap') := ⟨HB.out, by omega, hown.1, Or.inr ⟨g, cap', cur, rfl, by omega, hg2, hg3, hg4, hg5, hg6⟩⟩
      clear hown hg2 hg5 hg6 h1 hf HS HC HT HM HN
      go_wp2
      go_ret2
      exact ⟨_, _, rfl, HG.out⟩
end Go.Proofs.YteehoihkbcbbgaaDoor
