/-
  What BestFilter answers, of the program and of the specification; each theorem names its conditions.
-/
import Derived.Test.YteehoihkbcbbgaaDoorRowf
namespace Go.Proofs.YteehoihkbcbbgaaDoor
open Go.ChangeShapes Go.WideShapes Go.ChangeAt Go.RowKit
set_option linter.unusedVariables false

theorem vint {k : IntKind} {a b : Int} (h : a = b) : Value.int k a = .int k b := by rw [h]
def sz (z : Int) : Int := if 127 < z then 256 - z else z
def szs (zs : List Int) : Int := zs.foldl (fun s z => s + sz z) 0
theorem szs_snoc (zs : List Int) (z : Int) : szs (zs ++ [z]) = szs zs + sz z := by simp [szs]
theorem szs_bd (zs : List Int) (h8 : ∀ z ∈ zs, 0 ≤ z ∧ z ≤ 255) : 0 ≤ szs zs ∧ szs zs ≤ 256 * zs.length := by
  have : ∀ n, n ≤ zs.length → 0 ≤ szs (zs.take n) ∧ szs (zs.take n) ≤ 256 * n := by
    intro n
    induction n with
    | zero => intro _; simp [szs]
    | succ n ih =>
      intro h
      have h1 := ih (by omega)
      rw [take_snoc zs n (by omega), szs_snoc]
      have h2 := u8_get zs h8 n (by omega)
      unfold sz
      split <;> omega
  have h := this zs.length (Nat.le_refl _)
  rwa [List.take_length] at h
theorem take_u8 (zs : List Int) (h8 : ∀ z ∈ zs, 0 ≤ z ∧ z ≤ 255) (k : Nat) : ∀ z ∈ zs.take k, 0 ≤ z ∧ z ≤ 255 := fun z hz => h8 z (List.mem_of_mem_take hz)
def bestN (zr za : List Int) : Nat → Nat × Int
  | 0 => (0, 0)
  | k + 1 => if k = 0 ∨ szs (filt k zr za) < (bestN zr za k).2 then (k, szs (filt k zr za)) else bestN zr za k
def best (zr za : List Int) : Nat := (bestN zr za 5).1
theorem bestN_le (zr za : List Int) (k : Nat) : (bestN zr za k).1 ≤ k - 1 := by
  induction k with
  | zero => simp [bestN]
  | succ k ih =>
    unfold bestN
    split
    · simp
    · omega
theorem best_le (zr za : List Int) : best zr za ≤ 4 := bestN_le zr za 5

set_option maxHeartbeats 1000000 in
theorem isizes (w : World) (a : Option Addr) (cap : Nat) (zs : List Int) (hz : Row .u8 w a zs) (hl : zs.length ≤ 1048576) (h8 : ∀ z ∈ zs, 0 ≤ z ∧ z ≤ 255) :
    Calls Tryd.prog 104 #[.slice a zs.length cap] w fun e w' => e = .returned (.int .i64 (szs zs)) ∧ w' = w := by
  have H8 : Hid _ := h8
  clear h8
  go_enter Tryd.func104, Tryd.ntmps104
  go_wp2
  go_loop [3, 8] (fun x i => ∃ k : Nat, k ≤ zs.length ∧ i = .int .i64 k ∧ x = .int .i64 (szs (zs.take k))) (fun _ i => zs.length - (intOf i).toNat)
  case atStart => exact ⟨0, Nat.zero_le _, rfl, rfl⟩
  case round =>
    obtain ⟨k, hk, rfl, rfl⟩ := hrel
    have hb := szs_bd (zs.take k) (take_u8 zs H8.out k)
    have hb2 : (zs.take k).length ≤ k := List.length_take_le _ _
    by_cases hlt : k < zs.length
    · rcases hz with rfl | ⟨b, off, rfl, hb2, hc⟩
      · exact absurd hlt (by simp)
      have c0 := hc k hlt
      have hz := u8_get zs H8.out k hlt
      have hs := szs_snoc (zs.take k) (zs.getD k 0)
      rw [← take_snoc zs k hlt] at hs
      have HS : Hid _ := hs
      clear hs hc
      generalize zs.getD k 0 = z at *
      generalize szs (zs.take k) = x at *
      go_wp2
      go_round
      case rel => exact ⟨k + 1, by omega, by go_num, by rw [HS.out]; exact vint (by unfold sz; split <;> split <;> omega)⟩
      case measure => simp [intOf]; omega
    · have e : k = zs.length := by omega
      subst e
      have HO : Hid (szs zs = szs (zs.take zs.length)) := by show _ = _; rw [List.take_length]
      generalize szs (zs.take zs.length) = x at *
      go_wp2
      go_ret
      exact ⟨by rw [HO.out]; rfl, rfl⟩

theorem Lie.nw {w w' : World} {b off : Nat} {zs : List Int} (h : Lie w b off zs) (k : Nw w w') : Lie w' b off zs := Lie.below h k h.1
theorem bestN_yes (zr za : List Int) (k : Nat) (h : k = 0 ∨ szs (filt k zr za) < (bestN zr za k).2) : bestN zr za (k + 1) = (k, szs (filt k zr za)) := by
  show (if _ then _ else _) = _
  rw [if_pos h]
theorem bestN_no (zr za : List Int) (k : Nat) (h : ¬ (k = 0 ∨ szs (filt k zr za) < (bestN zr za k).2)) : bestN zr za (k + 1) = bestN zr za k := by
  show (if _ then _ else _) = _
  rw [if_neg h]

set_option maxHeartbeats 2000000 in
theorem ibestF (W : World) (br or cr ba oa ca n : Nat) (zr za : List Int) (hn : RowOk n n) (hzr : zr.length = n) (hza : za.length = n) (hr : Lie W br or zr) (ha : Lie W ba oa za) (h8r : ∀ z ∈ zr, 0 ≤ z ∧ z ≤ 255) (h8a : ∀ z ∈ za, 0 ≤ z ∧ z ≤ 255) :
    Calls Tryd.prog 71 #[.slice (some ⟨br, or, none⟩) n cr, .slice (some ⟨ba, oa, none⟩) n ca] W fun e w' => e = .returned (.tuple #[.int .i64 (best zr za : Int), .bool true]) ∧ Nw W w' := by
  have HG : Hid _ := igoodRows_yes W (some ⟨br, or, none⟩) (some ⟨ba, oa, none⟩) n cr ca hn
  have hn1 : n ≤ 144 := hn.2.2.1
  have HFI : Hid (∀ W' (k : Nat), k ≤ 4 → Nw W W' → Calls Tryd.prog 72 #[.int .i64 (k : Int), .slice (some ⟨br, or, none⟩) n cr, .slice (some ⟨ba, oa, none⟩) n ca] W' fun e w' => ∃ g, e = .returned (.tuple #[.slice (some ⟨g, 0, none⟩) n n, .bool true]) ∧ Nw W' w' ∧ At w' g (filt k zr za)) :=
    fun W' k hk hw => (ifilter W' k hk br or cr ba oa ca n zr za hn hzr hza (hr.nw hw) (ha.nw hw) h8r h8a).mono fun e w' ⟨g, h1, h2, h3, h4⟩ => ⟨g, h1, h2, h4⟩
  clear hr ha h8r h8a hn
  go_enter Tryd.func71, Tryd.ntmps71
  go_wp2_with fail
  refine Calls.mono HG.out ?_
  rintro e w1 ⟨rfl, rfl⟩
  clear HG
  go_wp2
  go_loopw [6, 7, 16] (fun b l i wr => ∃ k : Nat, k ≤ 5 ∧ i = .int .i64 k ∧ b = .int .i64 ((bestN zr za k).1 : Int) ∧ l = .int .i64 (bestN zr za k).2 ∧ Nw w1 wr) (fun _ _ i _ => 5 - (intOf i).toNat)
  case atStart => exact ⟨0, Nat.zero_le _, rfl, rfl, rfl, Below.refl _ _⟩
  case round =>
    obtain ⟨k, hk, rfl, rfl, rfl, hw⟩ := hrel
    have HW : Hid _ := hw
    clear hw
    by_cases hlt : k < 5
    · have HC : Hid _ := HFI.out wr k (by omega) HW.out
      have h8 := filt_u8 k zr za
      have hfl := filt_len k zr za
      have HZ : Hid (∀ W' g, At W' g (filt k zr za) → Calls Tryd.prog 104 #[.slice (some ⟨g, 0, none⟩) n n] W' fun e w' => e = .returned (.int .i64 (szs (filt k zr za))) ∧ w' = W') := by
        intro W' g h
        have := isizes W' (some ⟨g, 0, none⟩) n (filt k zr za) h.row (by omega) h8
        rwa [hfl, hzr] at this
      have HY : Hid _ := bestN_yes zr za k
      have HN : Hid _ := bestN_no zr za k
      clear h8 hfl
      have hle := bestN_le zr za k
      generalize hb1 : (bestN zr za k).1 = b1 at *
      generalize hb2 : (bestN zr za k).2 = b2 at *
      generalize szs (filt k zr za) = s at *
      have HB1 : Hid _ := hb1
      have HB2 : Hid _ := hb2
      clear hb1 hb2
      go_wp2_with fail
      refine Calls.mono HC.out ?_
      rintro e w2 ⟨g, rfl, h1, h2⟩
      have H1 : Hid (Nw w1 w2) := Nw.trans HW.out h1
      have H2 : Hid _ := h2
      clear h1 h2 HW
      go_wp2_with fail
      refine Calls.mono (HZ.out _ _ H2.out) ?_
      rintro e w2 ⟨rfl, rfl⟩
      clear HZ HC H2
      by_cases h0 : k = 0
      · subst h0
        go_wp2
        go_roundw
        case rel => exact ⟨1, by omega, by go_num, by rw [show bestN zr za 1 = (0, s) from HY.out (by simp)]; rfl, by rw [show bestN zr za 1 = (0, s) from HY.out (by simp)], H1.out⟩
        case measure => simp [intOf]
      · have hk0 : ((k : Int) == 0) = false := by rw [beq_eq_false_iff_ne]; omega
        by_cases hs : s < b2
        · go_wp2
          go_roundw
          case rel => exact ⟨k + 1, by omega, by go_num, by rw [HY.out (Or.inr hs)], by rw [HY.out (Or.inr hs)], H1.out⟩
          case measure => simp [intOf]; omega
        · have HNN : Hid _ := HN.out (by omega)
          go_wp2
          go_roundw
          case rel => exact ⟨k + 1, by omega, by go_num, by rw [HNN.out, HB1.out], by rw [HNN.out, HB2.out], H1.out⟩
          case measure => simp [intOf]; omega
    · have e : k = 5 := by omega
      subst e
      go_wp2
      go_ret2
      exact ⟨rfl, HW.out⟩

set_option maxHeartbeats 4000000 in
theorem sl3best (W : World) (br or cr ba oa ca n : Nat) (zr za : List Int) (hn : n ≤ 1048576) (hzr : zr.length = n) (hza : za.length = n) (hr : Lie W br or zr) (ha : Lie W ba oa za) (h8r : ∀ z ∈ zr, 0 ≤ z ∧ z ≤ 255) (h8a : ∀ z ∈ za, 0 ≤ z ∧ z ≤ 255) :
    Calls Tryd.prog 100 #[.slice (some ⟨br, or, none⟩) n cr, .slice (some ⟨ba, oa, none⟩) n ca] W fun e w' => e = .returned (.int .i64 (best zr za : Int)) ∧ Nw W w' := by
  have HFI : Hid (∀ W' (k : Nat), k ≤ 4 → Nw W W' → Calls Tryd.prog 101 #[.int .i64 (k : Int), .slice (some ⟨br, or, none⟩) n cr, .slice (some ⟨ba, oa, none⟩) n ca] W' fun e w' => ∃ g, e = .returned (.slice (some ⟨g, 0, none⟩) n n) ∧ Nw W' w' ∧ At w' g (filt k zr za)) :=
    fun W' k hk hw => (sl3filter W' k hk br or cr ba oa ca n zr za _ hn hzr hza (hr.nw hw) (ha.nw hw) h8r h8a (filt_is k zr za)).mono fun e w' ⟨h1, h2, h3⟩ => ⟨_, h1, h2, h3⟩
  clear hr ha h8r h8a
  go_enter Tryd.func100, Tryd.ntmps100
  go_wp2
  go_loopw [5, 6, 7] (fun b l i wr => ∃ k : Nat, k ≤ 5 ∧ i = .int .i64 k ∧ b = .int .i64 ((bestN zr za k).1 : Int) ∧ l = .int .i64 (bestN zr za k).2 ∧ Nw W wr) (fun _ _ i _ => 5 - (intOf i).toNat)
  case atStart => exact ⟨0, Nat.zero_le _, rfl, rfl, rfl, Below.refl _ _⟩
  case round =>
    obtain ⟨k, hk, rfl, rfl, rfl, hw⟩ := hrel
    have HW : Hid _ := hw
    clear hw
    by_cases hlt : k < 5
    · have HC : Hid _ := HFI.out wr k (by omega) HW.out
      have h8 := filt_u8 k zr za
      have hfl : (filt k zr za).length = n := by rw [filt_len, hzr]
      have HY : Hid _ := bestN_yes zr za k
      have HN : Hid _ := bestN_no zr za k
      have hle := bestN_le zr za k
      have H8 : Hid _ := h8
      clear h8
      generalize hb1 : (bestN zr za k).1 = b1 at *
      generalize hb2 : (bestN zr za k).2 = b2 at *
      have HB1 : Hid _ := hb1
      have HB2 : Hid _ := hb2
      clear hb1 hb2
      go_wp2_with fail
      refine Calls.mono HC.out ?_
      rintro e w2 ⟨g, rfl, h1, h2⟩
      have H1 : Hid (Nw W w2) := Nw.trans HW.out h1
      have H2 : Hid (At w2 g (filt k zr za)) := h2
      clear h1 h2 HW HC
      generalize filt k zr za = fs at *
      go_wp2
      go_loopw [8, 20] (fun x i wq => ∃ j : Nat, j ≤ n ∧ i = .int .i64 j ∧ x = .int .i64 (szs (fs.take j)) ∧ wq = w2) (fun _ i _ => n - (intOf i).toNat)
      case atStart => exact ⟨0, Nat.zero_le _, rfl, rfl, rfl⟩
      case round =>
        obtain ⟨j, hj, rfl, rfl, rfl⟩ := hrel
        have hb := szs_bd (fs.take j) (take_u8 fs H8.out j)
        have hbl : (fs.take j).length ≤ j := List.length_take_le _ _
        by_cases hlj : j < n
        · have c0 := H2.out.2.1 j (by omega)
          rw [Nat.zero_add] at c0
          have hz := u8_get fs H8.out j (by omega)
          have hs := szs_snoc (fs.take j) (fs.getD j 0)
          rw [← take_snoc fs j (by omega)] at hs
          have HS : Hid _ := hs
          clear hs
          generalize fs.getD j 0 = z at *
          generalize szs (fs.take j) = x at *
          by_cases h127 : 127 < z
          · have HZ : Hid (sz z = 256 - z) := by show _ = _; unfold sz; rw [if_pos h127]
            go_wp2
            go_roundw
            case rel => exact ⟨j + 1, by omega, by go_num, by rw [HS.out, HZ.out], by first | rfl | trivial⟩
            case measure => simp [intOf]; omega
          · have HZ : Hid (sz z = z) := by show _ = _; unfold sz; rw [if_neg h127]
            go_wp2
            go_roundw
            case rel => exact ⟨j + 1, by omega, by go_num, by rw [HS.out, HZ.out], by first | rfl | trivial⟩
            case measure => simp [intOf]; omega
        · have e : j = n := by omega
          subst e
          have HO : Hid (szs (fs.take j) = szs fs) := by show _ = _; rw [← hfl, List.take_length]
          rw [HO.out]
          generalize szs fs = s at *
          clear hb HO H2
          by_cases h0 : k = 0
          · subst h0
            go_wp2
            go_roundw
            case rel => exact ⟨1, by omega, by go_num, by rw [show bestN zr za 1 = (0, s) from HY.out (by simp)], by rw [show bestN zr za 1 = (0, s) from HY.out (by simp)], H1.out⟩
            case measure => simp [intOf]
          · have hk0 : ((k : Int) == 0) = false := by rw [beq_eq_false_iff_ne]; omega
            by_cases hs : s < b2
            · go_wp2
              go_roundw
              case rel => exact ⟨k + 1, by omega, by go_num, by rw [HY.out (Or.inr hs)], by rw [HY.out (Or.inr hs)], H1.out⟩
              case measure => simp [intOf]; omega
            · have HNN : Hid _ := HN.out (by omega)
              go_wp2
              go_roundw
              case rel => exact ⟨k + 1, by omega, by go_num, by rw [HNN.out, HB1.out], by rw [HNN.out, HB2.out], H1.out⟩
              case measure => simp [intOf]; omega
    · have e : k = 5 := by omega
      subst e
      go_wp2
      go_ret
      exact ⟨rfl, HW.out⟩
end Go.Proofs.YteehoihkbcbbgaaDoor
