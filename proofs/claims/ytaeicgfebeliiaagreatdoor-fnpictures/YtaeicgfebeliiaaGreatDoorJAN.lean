/-
  What FilterRow and UnfilterRow answer, of the program and of the specification; each theorem names its conditions.
  What BestFilter answers, of the program and of the specification; each theorem names its conditions.
  What the program's rowAt and filterRows do; each theorem names its conditions.
  What putDistance does; its conditions stand in the theorem.
-/
import Derived.Test.YtaeicgfebeliiaaGreatDoorJAL
import Derived.Test.YtaeicgfebeliiaaGreatDoorJAM
import Derived.Test.YtaeicgfebeliiaaGreatDoorJAE
import Derived.Deep.RegionHeld3
namespace Go.Proofs.YtaeicgfebeliiaaGreatDoor
open Go.ChangeShapes Go.WideShapes Go.ChangeAt Go.RowKit
set_option linter.unusedVariables false

def filt (kind : Nat) (zr za : List Int) : List Int := (List.range zr.length).map fun k => (zr.getD k 0 - guess kind (left zr k) (za.getD k 0) (left za k)) % 256
theorem filt_is (kind : Nat) (zr za : List Int) : IsFilt kind zr za (filt kind zr za) := by
  refine ⟨by simp [filt], fun k hk => ?_⟩
  simp [filt, hk]
def unfN (kind : Nat) (zr za : List Int) : Nat → List Int
  | 0 => []
  | n + 1 => unfN kind zr za n ++ [(zr.getD n 0 + guess kind (left (unfN kind zr za n) n) (za.getD n 0) (left za n)) % 256]
theorem unfN_len (kind : Nat) (zr za : List Int) (n : Nat) : (unfN kind zr za n).length = n := by
  induction n with
  | zero => rfl
  | succ n ih => simp [unfN, ih]
theorem unfN_get (kind : Nat) (zr za : List Int) (m n k : Nat) (h : m ≤ n) (hk : k < m) : (unfN kind zr za n).getD k 0 = (unfN kind zr za m).getD k 0 := by
  induction n with
  | zero => omega
  | succ n ih =>
    by_cases e : m = n + 1
    · rw [e]
    · rw [← ih (by omega)]
      have h1 := unfN_len kind zr za n
      simp only [unfN, List.getD_eq_getElem?_getD]
      rw [List.getElem?_append_left (by omega)]
def unf (kind : Nat) (zr za : List Int) : List Int := unfN kind zr za zr.length
theorem unf_is (kind : Nat) (zr za : List Int) : IsUnf kind zr za (unf kind zr za) := by
  refine ⟨unfN_len _ _ _ _, fun k hk => ?_⟩
  unfold unf
  rw [unfN_get kind zr za (k + 1) zr.length k (by omega) (by omega)]
  have h1 := unfN_len kind zr za k
  have e : left (unfN kind zr za zr.length) k = left (unfN kind zr za k) k := by
    unfold left
    split
    · rfl
    · exact unfN_get kind zr za k zr.length (k - 4) (by omega) (by omega)
  rw [e]
  simp only [unfN, List.getD_eq_getElem?_getD]
  rw [List.getElem?_append_right (by omega)]
  simp [h1]
theorem filt_u8 (kind : Nat) (zr za : List Int) : ∀ z ∈ filt kind zr za, 0 ≤ z ∧ z ≤ 255 := by
  intro z hz
  simp [filt] at hz
  obtain ⟨k, hk, rfl⟩ := hz
  omega
theorem filt_len (kind : Nat) (zr za : List Int) : (filt kind zr za).length = zr.length := by simp [filt]
theorem unf_len (kind : Nat) (zr za : List Int) : (unf kind zr za).length = zr.length := unfN_len _ _ _ _
theorem unfN_u8 (kind : Nat) (zr za : List Int) (n : Nat) : ∀ z ∈ unfN kind zr za n, 0 ≤ z ∧ z ≤ 255 := by
  induction n with
  | zero => simp [unfN]
  | succ n ih =>
    intro z hz
    simp only [unfN, List.mem_append, List.mem_singleton] at hz
    rcases hz with hz | rfl
    · exact ih z hz
    · omega

theorem ifilter (W : World) (kind : Nat) (hk : kind ≤ 4) (br or cr ba oa ca n : Nat) (zr za : List Int) (hn : RowOk n n) (hzr : zr.length = n) (hza : za.length = n) (hr : Lie W br or zr) (ha : Lie W ba oa za) (h8r : ∀ z ∈ zr, 0 ≤ z ∧ z ≤ 255) (h8a : ∀ z ∈ za, 0 ≤ z ∧ z ≤ 255) :
    Calls Tryz.prog 9 #[.int .i64 (kind : Int), .slice (some ⟨br, or, none⟩) n cr, .slice (some ⟨ba, oa, none⟩) n ca] W fun e w' => ∃ g, e = .returned (.tuple #[.slice (some ⟨g, 0, none⟩) n n, .bool true]) ∧ Nw W w' ∧ W.heap.size ≤ g ∧ At w' g (filt kind zr za) := by
  have h : kind = 0 ∨ kind = 1 ∨ kind = 2 ∨ kind = 3 ∨ kind = 4 := by omega
  rcases h with rfl | rfl | rfl | rfl | rfl
  · exact ifilt0 W br or cr ba oa ca n zr za _ hn hzr hza hr ha h8r h8a (filt_is _ _ _)
  · exact ifilt1 W br or cr ba oa ca n zr za _ hn hzr hza hr ha h8r h8a (filt_is _ _ _)
  · exact ifilt2 W br or cr ba oa ca n zr za _ hn hzr hza hr ha h8r h8a (filt_is _ _ _)
  · exact ifilt3 W br or cr ba oa ca n zr za _ hn hzr hza hr ha h8r h8a (filt_is _ _ _)
  · exact ifilt4 W br or cr ba oa ca n zr za _ hn hzr hza hr ha h8r h8a (filt_is _ _ _)
theorem iunfilter (W : World) (kind : Nat) (hk : kind ≤ 4) (br or cr ba oa ca n : Nat) (zr za : List Int) (hn : RowOk n n) (hzr : zr.length = n) (hza : za.length = n) (hr : Lie W br or zr) (ha : Lie W ba oa za) (h8r : ∀ z ∈ zr, 0 ≤ z ∧ z ≤ 255) (h8a : ∀ z ∈ za, 0 ≤ z ∧ z ≤ 255) :
    Calls Tryz.prog 11 #[.int .i64 (kind : Int), .slice (some ⟨br, or, none⟩) n cr, .slice (some ⟨ba, oa, none⟩) n ca] W fun e w' => ∃ g, e = .returned (.tuple #[.slice (some ⟨g, 0, none⟩) n n, .bool true]) ∧ Nw W w' ∧ W.heap.size ≤ g ∧ At w' g (unf kind zr za) := by
  have h : kind = 0 ∨ kind = 1 ∨ kind = 2 ∨ kind = 3 ∨ kind = 4 := by omega
  rcases h with rfl | rfl | rfl | rfl | rfl
  · exact iunf0 W br or cr ba oa ca n zr za _ hn hzr hza hr ha h8r h8a (unf_is _ _ _)
  · exact iunf1 W br or cr ba oa ca n zr za _ hn hzr hza hr ha h8r h8a (unf_is _ _ _)
  · exact iunf2 W br or cr ba oa ca n zr za _ hn hzr hza hr ha h8r h8a (unf_is _ _ _)
  · exact iunf3 W br or cr ba oa ca n zr za _ hn hzr hza hr ha h8r h8a (unf_is _ _ _)
  · exact iunf4 W br or cr ba oa ca n zr za _ hn hzr hza hr ha h8r h8a (unf_is _ _ _)
end Go.Proofs.YtaeicgfebeliiaaGreatDoor
namespace Go.Proofs.YtaeicgfebeliiaaGreatDoor
open Go.ChangeShapes Go.WideShapes Go.ChangeAt Go.RowKit
set_option linter.unusedVariables false

theorem vint {k : IntKind} {a b : Int} (h : a = b) : Value.int k a = .int k b := by rw [h]
def sz (z : Int) : Int := if 127 < z then 256 - z else z
def szs (zs : List Int) : Int := zs.foldl (fun s z => s + sz z) 0
theorem szs_snoc (zs : List Int) (z : Int) : szs (zs ++ [z]) = szs zs + sz z := by simp [szs]
theorem szs_bd (zs : List Int) (h8 : ∀ z ∈ zs, 0 ≤ z ∧ z ≤ 255) : 0 ≤ szs zs ∧ szs zs ≤ 256 * zs.length := by
  have : ∀ n, n ≤ zs.length → 0 ≤ szs (zs.take n) ∧ szs (zs.take n) ≤ 256 * n := by
    intro n
    induction n with
    | zero => intro _; simp [szs]
    | succ n ih =>
      intro h
      have h1 := ih (by omega)
      rw [take_snoc zs n (by omega), szs_snoc]
      have h2 := u8_get zs h8 n (by omega)
      unfold sz
      split <;> omega
  have h := this zs.length (Nat.le_refl _)
  rwa [List.take_length] at h
theorem take_u8 (zs : List Int) (h8 : ∀ z ∈ zs, 0 ≤ z ∧ z ≤ 255) (k : Nat) : ∀ z ∈ zs.take k, 0 ≤ z ∧ z ≤ 255 := fun z hz => h8 z (List.mem_of_mem_take hz)
def bestN (zr za : List Int) : Nat → Nat × Int
  | 0 => (0, 0)
  | k + 1 => if k = 0 ∨ szs (filt k zr za) < (bestN zr za k).2 then (k, szs (filt k zr za)) else bestN zr za k
def best (zr za : List Int) : Nat := (bestN zr za 5).1
theorem bestN_le (zr za : List Int) (k : Nat) : (bestN zr za k).1 ≤ k - 1 := by
  induction k with
  | zero => simp [bestN]
  | succ k ih =>
    unfold bestN
    split
    · simp
    · omega
theorem best_le (zr za : List Int) : best zr za ≤ 4 := bestN_le zr za 5

set_option maxHeartbeats 1000000 in
theorem isizes (w : World) (a : Option Addr) (cap : Nat) (zs : List Int) (hz : Row .u8 w a zs) (hl : zs.length ≤ 1048576) (h8 : ∀ z ∈ zs, 0 ≤ z ∧ z ≤ 255) :
    Calls Tryz.prog 64 #[.slice a zs.length cap] w fun e w' => e = .returned (.int .i64 (szs zs)) ∧ w' = w := by
  have H8 : Hid _ := h8
  clear h8
  go_enter Tryz.func64, Tryz.ntmps64
  go_wp2
  go_loop [3, 8] (fun x i => ∃ k : Nat, k ≤ zs.length ∧ i = .int .i64 k ∧ x = .int .i64 (szs (zs.take k))) (fun _ i => zs.length - (intOf i).toNat)
  case atStart => exact ⟨0, Nat.zero_le _, rfl, rfl⟩
  case round =>
    obtain ⟨k, hk, rfl, rfl⟩ := hrel
    have hb := szs_bd (zs.take k) (take_u8 zs H8.out k)
    have hb2 : (zs.take k).length ≤ k := List.length_take_le _ _
    by_cases hlt : k < zs.length
    · rcases hz with rfl | ⟨b, off, rfl, hb2, hc⟩
      · exact absurd hlt (by simp)
      have c0 := hc k hlt
      have hz := u8_get zs H8.out k hlt
      have hs := szs_snoc (zs.take k) (zs.getD k 0)
      rw [← take_snoc zs k hlt] at hs
      have HS : Hid _ := hs
      clear hs hc
      generalize zs.getD k 0 = z at *
      generalize szs (zs.take k) = x at *
      go_wp2
      go_round
      case rel => exact ⟨k + 1, by omega, by go_num, by rw [HS.out]; exact vint (by unfold sz; split <;> split <;> omega)⟩
      case measure => simp [intOf]; omega
    · have e : k = zs.length := by omega
      subst e
      have HO : Hid (szs zs = szs (zs.take zs.length)) := by show _ = _; rw [List.take_length]
      generalize szs (zs.take zs.length) = x at *
      go_wp2
      go_ret
      exact ⟨by rw [HO.out]; rfl, rfl⟩

theorem Lie.nw {w w' : World} {b off : Nat} {zs : List Int} (h : Lie w b off zs) (k : Nw w w') : Lie w' b off zs := Lie.below h k h.1
theorem bestN_yes (zr za : List Int) (k : Nat) (h : k = 0 ∨ szs (filt k zr za) < (bestN zr za k).2) : bestN zr za (k + 1) = (k, szs (filt k zr za)) := by
  show (if _ then _ else _) = _
  rw [if_pos h]
theorem bestN_no (zr za : List Int) (k : Nat) (h : ¬ (k = 0 ∨ szs (filt k zr za) < (bestN zr za k).2)) : bestN zr za (k + 1) = bestN zr za k := by
  show (if _ then _ else _) = _
  rw [if_neg h]

set_option maxHeartbeats 2000000 in
theorem ibestF (W : World) (br or cr ba oa ca n : Nat) (zr za : List Int) (hn : RowOk n n) (hzr : zr.length = n) (hza : za.length = n) (hr : Lie W br or zr) (ha : Lie W ba oa za) (h8r : ∀ z ∈ zr, 0 ≤ z ∧ z ≤ 255) (h8a : ∀ z ∈ za, 0 ≤ z ∧ z ≤ 255) :
    Calls Tryz.prog 42 #[.slice (some ⟨br, or, none⟩) n cr, .slice (some ⟨ba, oa, none⟩) n ca] W fun e w' => e = .returned (.tuple #[.int .i64 (best zr za : Int), .bool true]) ∧ Nw W w' := by
  have HG : Hid _ := igoodRows_yes W (some ⟨br, or, none⟩) (some ⟨ba, oa, none⟩) n cr ca hn
  have hn1 : n ≤ 144 := hn.2.2.1
  have HFI : Hid (∀ W' (k : Nat), k ≤ 4 → Nw W W' → Calls Tryz.prog 9 #[.int .i64 (k : Int), .slice (some ⟨br, or, none⟩) n cr, .slice (some ⟨ba, oa, none⟩) n ca] W' fun e w' => ∃ g, e = .returned (.tuple #[.slice (some ⟨g, 0, none⟩) n n, .bool true]) ∧ Nw W' w' ∧ At w' g (filt k zr za)) :=
    fun W' k hk hw => (ifilter W' k hk br or cr ba oa ca n zr za hn hzr hza (hr.nw hw) (ha.nw hw) h8r h8a).mono fun e w' ⟨g, h1, h2, h3, h4⟩ => ⟨g, h1, h2, h4⟩
  clear hr ha h8r h8a hn
  go_enter Tryz.func42, Tryz.ntmps42
  go_wp2_with fail
  refine Calls.mono HG.out ?_
  rintro e w1 ⟨rfl, rfl⟩
  clear HG
  go_wp2
  go_loopw [6, 7, 16] (fun b l i wr => ∃ k : Nat, k ≤ 5 ∧ i = .int .i64 k ∧ b = .int .i64 ((bestN zr za k).1 : Int) ∧ l = .int .i64 (bestN zr za k).2 ∧ Nw w1 wr) (fun _ _ i _ => 5 - (intOf i).toNat)
  case atStart => exact ⟨0, Nat.zero_le _, rfl, rfl, rfl, Below.refl _ _⟩
  case round =>
    obtain ⟨k, hk, rfl, rfl, rfl, hw⟩ := hrel
    have HW : Hid _ := hw
    clear hw
    by_cases hlt : k < 5
    · have HC : Hid _ := HFI.out wr k (by omega) HW.out
      have h8 := filt_u8 k zr za
      have hfl := filt_len k zr za
      have HZ : Hid (∀ W' g, At W' g (filt k zr za) → Calls Tryz.prog 64 #[.slice (some ⟨g, 0, none⟩) n n] W' fun e w' => e = .returned (.int .i64 (szs (filt k zr za))) ∧ w' = W') := by
        intro W' g h
        have := isizes W' (some ⟨g, 0, none⟩) n (filt k zr za) h.row (by omega) h8
        rwa [hfl, hzr] at this
      have HY : Hid _ := bestN_yes zr za k
      have HN : Hid _ := bestN_no zr za k
      clear h8 hfl
      have hle := bestN_le zr za k
      generalize hb1 : (bestN zr za k).1 = b1 at *
      generalize hb2 : (bestN zr za k).2 = b2 at *
      generalize szs (filt k zr za) = s at *
      have HB1 : Hid _ := hb1
      have HB2 : Hid _ := hb2
      clear hb1 hb2
      go_wp2_with fail
      refine Calls.mono HC.out ?_
      rintro e w2 ⟨g, rfl, h1, h2⟩
      have H1 : Hid (Nw w1 w2) := Nw.trans HW.out h1
      have H2 : Hid _ := h2
      clear h1 h2 HW
      go_wp2_with fail
      refine Calls.mono (HZ.out _ _ H2.out) ?_
      rintro e w2 ⟨rfl, rfl⟩
      clear HZ HC H2
      by_cases h0 : k = 0
      · subst h0
        go_wp2
        go_roundw
        case rel => exact ⟨1, by omega, by go_num, by rw [show bestN zr za 1 = (0, s) from HY.out (by simp)]; rfl, by rw [show bestN zr za 1 = (0, s) from HY.out (by simp)], H1.out⟩
        case measure => simp [intOf]
      · have hk0 : ((k : Int) == 0) = false := by rw [beq_eq_false_iff_ne]; omega
        by_cases hs : s < b2
        · go_wp2
          go_roundw
          case rel => exact ⟨k + 1, by omega, by go_num, by rw [HY.out (Or.inr hs)], by rw [HY.out (Or.inr hs)], H1.out⟩
          case measure => simp [intOf]; omega
        · have HNN : Hid _ := HN.out (by omega)
          go_wp2
          go_roundw
          case rel => exact ⟨k + 1, by omega, by go_num, by rw [HNN.out, HB1.out], by rw [HNN.out, HB2.out], H1.out⟩
          case measure => simp [intOf]; omega
    · have e : k = 5 := by omega
      subst e
      go_wp2
      go_ret2
      exact ⟨rfl, HW.out⟩

set_option maxHeartbeats 4000000 in
theorem sl3best (W : World) (br or cr ba oa ca n : Nat) (zr za : List Int) (hn : n ≤ 1048576) (hzr : zr.length = n) (hza : za.length = n) (hr : Lie W br or zr) (ha : Lie W ba oa za) (h8r : ∀ z ∈ zr, 0 ≤ z ∧ z ≤ 255) (h8a : ∀ z ∈ za, 0 ≤ z ∧ z ≤ 255) :
    Calls Tryz.prog 66 #[.slice (some ⟨br, or, none⟩) n cr, .slice (some ⟨ba, oa, none⟩) n ca] W fun e w' => e = .returned (.int .i64 (best zr za : Int)) ∧ Nw W w' := by
  have HFI : Hid (∀ W' (k : Nat), k ≤ 4 → Nw W W' → Calls Tryz.prog 36 #[.int .i64 (k : Int), .slice (some ⟨br, or, none⟩) n cr, .slice (some ⟨ba, oa, none⟩) n ca] W' fun e w' => ∃ g, e = .returned (.slice (some ⟨g, 0, none⟩) n n) ∧ Nw W' w' ∧ At w' g (filt k zr za)) :=
    fun W' k hk hw => (sl3filter W' k hk br or cr ba oa ca n zr za _ hn hzr hza (hr.nw hw) (ha.nw hw) h8r h8a (filt_is k zr za)).mono fun e w' ⟨h1, h2, h3⟩ => ⟨_, h1, h2, h3⟩
  clear hr ha h8r h8a
  go_enter Tryz.func66, Tryz.ntmps66
  go_wp2
  go_loopw [5, 6, 7] (fun b l i wr => ∃ k : Nat, k ≤ 5 ∧ i = .int .i64 k ∧ b = .int .i64 ((bestN zr za k).1 : Int) ∧ l = .int .i64 (bestN zr za k).2 ∧ Nw W wr) (fun _ _ i _ => 5 - (intOf i).toNat)
  case atStart => exact ⟨0, Nat.zero_le _, rfl, rfl, rfl, Below.refl _ _⟩
  case round =>
    obtain ⟨k, hk, rfl, rfl, rfl, hw⟩ := hrel
    have HW : Hid _ := hw
    clear hw
    by_cases hlt : k < 5
    · have HC : Hid _ := HFI.out wr k (by omega) HW.out
      have h8 := filt_u8 k zr za
      have hfl : (filt k zr za).length = n := by rw [filt_len, hzr]
      have HY : Hid _ := bestN_yes zr za k
      have HN : Hid _ := bestN_no zr za k
      have hle := bestN_le zr za k
      have H8 : Hid _ := h8
      clear h8
      generalize hb1 : (bestN zr za k).1 = b1 at *
      generalize hb2 : (bestN zr za k).2 = b2 at *
      have HB1 : Hid _ := hb1
      have HB2 : Hid _ := hb2
      clear hb1 hb2
      go_wp2_with fail
      refine Calls.mono HC.out ?_
      rintro e w2 ⟨g, rfl, h1, h2⟩
      have H1 : Hid (Nw W w2) := Nw.trans HW.out h1
      have H2 : Hid (At w2 g (filt k zr za)) := h2
      clear h1 h2 HW HC
      generalize filt k zr za = fs at *
      go_wp2
      go_loopw [8, 20] (fun x i wq => ∃ j : Nat, j ≤ n ∧ i = .int .i64 j ∧ x = .int .i64 (szs (fs.take j)) ∧ wq = w2) (fun _ i _ => n - (intOf i).toNat)
      case atStart => exact ⟨0, Nat.zero_le _, rfl, rfl, rfl⟩
      case round =>
        obtain ⟨j, hj, rfl, rfl, rfl⟩ := hrel
        have hb := szs_bd (fs.take j) (take_u8 fs H8.out j)
        have hbl : (fs.take j).length ≤ j := List.length_take_le _ _
        by_cases hlj : j < n
        · have c0 := H2.out.2.1 j (by omega)
          rw [Nat.zero_add] at c0
          have hz := u8_get fs H8.out j (by omega)
          have hs := szs_snoc (fs.take j) (fs.getD j 0)
          rw [← take_snoc fs j (by omega)] at hs
          have HS : Hid _ := hs
          clear hs
          generalize fs.getD j 0 = z at *
          generalize szs (fs.take j) = x at *
          by_cases h127 : 127 < z
          · have HZ : Hid (sz z = 256 - z) := by show _ = _; unfold sz; rw [if_pos h127]
            go_wp2
            go_roundw
            case rel => exact ⟨j + 1, by omega, by go_num, by rw [HS.out, HZ.out], by first | rfl | trivial⟩
            case measure => simp [intOf]; omega
          · have HZ : Hid (sz z = z) := by show _ = _; unfold sz; rw [if_neg h127]
            go_wp2
            go_roundw
            case rel => exact ⟨j + 1, by omega, by go_num, by rw [HS.out, HZ.out], by first | rfl | trivial⟩
            case measure => simp [intOf]; omega
        · have e : j = n := by omega
          subst e
          have HO : Hid (szs (fs.take j) = szs fs) := by show _ = _; rw [← hfl, List.take_length]
          rw [HO.out]
          generalize szs fs = s at *
          clear hb HO H2
          by_cases h0 : k = 0
          · subst h0
            go_wp2
            go_roundw
            case rel => exact ⟨1, by omega, by go_num, by rw [show bestN zr za 1 = (0, s) from HY.out (by simp)], by rw [show bestN zr za 1 = (0, s) from HY.out (by simp)], H1.out⟩
            case measure => simp [intOf]
          · have hk0 : ((k : Int) == 0) = false := by rw [beq_eq_false_iff_ne]; omega
            by_cases hs : s < b2
            · go_wp2
              go_roundw
              case rel => exact ⟨k + 1, by omega, by go_num, by rw [HY.out (Or.inr hs)], by rw [HY.out (Or.inr hs)], H1.out⟩
              case measure => simp [intOf]; omega
            · have HNN : Hid _ := HN.out (by omega)
              go_wp2
              go_roundw
              case rel => exact ⟨k + 1, by omega, by go_num, by rw [HNN.out, HB1.out], by rw [HNN.out, HB2.out], H1.out⟩
              case measure => simp [intOf]; omega
    · have e : k = 5 := by omega
      subst e
      go_wp2
      go_ret
      exact ⟨rfl, HW.out⟩
end Go.Proofs.YtaeicgfebeliiaaGreatDoor
namespace Go.Proofs.YtaeicgfebeliiaaGreatDoor
open Go.ChangeShapes Go.WideShapes Go.ChangeAt Go.RowKit
set_option linter.unusedVariables false

def rowK (zp : List Int) (size k : Nat) : List Int := (zp.drop (k * size)).take size
def abv (zp : List Int) (size k : Nat) : List Int := if k = 0 then List.replicate size 0 else rowK zp size (k - 1)
def rowsN (zp : List Int) (size : Nat) : Nat → List Int
  | 0 => []
  | k + 1 => rowsN zp size k ++ [(best (rowK zp size k) (abv zp size k) : Int)] ++ filt (best (rowK zp size k) (abv zp size k)) (rowK zp size k) (abv zp size k)
theorem rowK_len (zp : List Int) (size k : Nat) (h : (k + 1) * size ≤ zp.length) : (rowK zp size k).length = size := by
  have e : (k + 1) * size = k * size + size := by rw [Nat.add_mul, Nat.one_mul]
  simp [rowK]; omega
theorem rowK_get (zp : List Int) (size k i : Nat) (hi : i < size) : (rowK zp size k).getD i 0 = zp.getD (k * size + i) 0 := by
  simp only [rowK, List.getD_eq_getElem?_getD, List.getElem?_take, hi, if_true, List.getElem?_drop]
theorem rowK_u8 (zp : List Int) (size k : Nat) (h8 : ∀ z ∈ zp, 0 ≤ z ∧ z ≤ 255) : ∀ z ∈ rowK zp size k, 0 ≤ z ∧ z ≤ 255 := fun z hz => h8 z (List.mem_of_mem_drop (List.mem_of_mem_take hz))
theorem abv_u8 (zp : List Int) (size k : Nat) (h8 : ∀ z ∈ zp, 0 ≤ z ∧ z ≤ 255) : ∀ z ∈ abv zp size k, 0 ≤ z ∧ z ≤ 255 := by
  unfold abv
  split
  · intro z hz
    have := List.eq_of_mem_replicate hz
    omega
  · exact rowK_u8 zp size (k - 1) h8
theorem abv_len (zp : List Int) (size k : Nat) (h : k * size ≤ zp.length) : (abv zp size k).length = size := by
  unfold abv
  split
  · simp
  · rename_i hk
    have e : k - 1 + 1 = k := by omega
    exact rowK_len zp size (k - 1) (by rw [e]; exact h)
theorem rowsN_len (zp : List Int) (size k : Nat) (h : k * size ≤ zp.length) : (rowsN zp size k).length = k * (size + 1) := by
  induction k with
  | zero => simp [rowsN]
  | succ k ih =>
    have e : (k + 1) * size = k * size + size := by rw [Nat.add_mul, Nat.one_mul]
    have e2 : (k + 1) * (size + 1) = k * (size + 1) + (size + 1) := by rw [Nat.add_mul, Nat.one_mul]
    have h1 := ih (by omega)
    have h2 := rowK_len zp size k h
    simp only [rowsN, List.length_append, List.length_singleton, filt_len, h1, h2]
    omega
theorem rowsN_u8 (zp : List Int) (size k : Nat) : ∀ z ∈ rowsN zp size k, 0 ≤ z ∧ z ≤ 255 := by
  induction k with
  | zero => simp [rowsN]
  | succ k ih =>
    intro z hz
    simp only [rowsN, List.mem_append, List.mem_singleton] at hz
    rcases hz with (hz | rfl) | hz
    · exact ih z hz
    · have := best_le (rowK zp size k) (abv zp size k); omega
    · exact filt_u8 _ _ _ z hz
theorem lie_sub {w : World} {b off : Nat} {zp : List Int} (h : Lie w b off zp) (size k : Nat) (hk : (k + 1) * size ≤ zp.length) : Lie w b (off + k * size) (rowK zp size k) := by
  have e : (k + 1) * size = k * size + size := by rw [Nat.add_mul, Nat.one_mul]
  refine ⟨h.1, fun i hi => ?_⟩
  rw [rowK_len zp size k hk] at hi
  rw [rowK_get zp size k i hi, Nat.add_assoc]
  exact h.2 (k * size + i) (by omega)

theorem ret_slice {a : Option Addr} {m n : Nat} (h : m = n) : Ending.returned (.slice a m m) = .returned (.slice a n n) := by rw [h]
theorem irowAt (W : World) (b off n c k size : Nat) (hs : 0 < size) (hk : (k + 1) * size ≤ n) (hn : n ≤ 1048576) (hc : n ≤ c) (hcm : c ≤ 9223372036854775807) :
    Calls Tryz.prog 41 #[.slice (some ⟨b, off, none⟩) n c, .int .i64 (k : Int), .int .i64 (size : Int)] W fun e w' => e = .returned (.slice (some ⟨b, off + k * size, none⟩) size size) ∧ w' = W := by
  have e : (k + 1) * size = k * size + size := by rw [Nat.add_mul, Nat.one_mul]
  have hkn : k ≤ k * size := Nat.le_mul_of_pos_right k hs
  have e1 : (k : Int) * (size : Int) = ((k * size : Nat) : Int) := by simp
  have e2 : ((k : Int) + 1) * (size : Int) = ((k * size + size : Nat) : Int) := by rw [← e]; simp
  rw [e] at hk
  generalize k * size = A at *
  have HS : Hid (A + size - A = size) := by show _ = _; omega
  clear e
  have h1 : A < c := by omega
  have h2 : A + size ≤ c := by omega
  go_enter Tryz.func41, Tryz.ntmps41
  go_wp2
  go_ret
  exact ⟨(ret_slice HS.out : Ending.returned (.slice (some ⟨b, off + A, none⟩) (A + size - A) (A + size - A)) = _), rfl⟩

theorem zeros_lie (w : World) (n : Nat) (t : TypeId) : Lie (w.alloc (.cells (madeCells #[Value.int .u8 0] n) t)) w.heap.size 0 (List.replicate n 0) := by
  have h := Lay.start w w w.heap.size n (List.replicate n 0) t (by simp) rfl (Below.refl _ _)
  refine ⟨h.2.1, fun i hi => ?_⟩
  rw [h.2.2.2.1 i (Nat.zero_le _) hi]
  simp at hi
  simp [hi]
set_option maxHeartbeats 8000000 in
theorem ifilterRows (W : World) (b off c wide high : Nat) (zp : List Int) (hw : 1 ≤ wide ∧ wide ≤ 36) (hh : 1 ≤ high ∧ high ≤ 36) (hz : zp.length = high * (4 * wide)) (hc : zp.length ≤ c) (hcm : c ≤ 9223372036854775807) (h8 : ∀ z ∈ zp, 0 ≤ z ∧ z ≤ 255) (hl : Lie W b off zp) :
    Calls Tryz.prog 19 #[.int .i64 (wide : Int), .int .i64 (high : Int), .slice (some ⟨b, off, none⟩) zp.length c] W fun e w' => ∃ v, e = .returned v ∧ Nw W w' ∧ Own w' W.heap.size v (rowsN zp (4 * wide) high) := by
  have hsz : 4 * (wide : Int) = ((4 * wide : Nat) : Int) := by simp
  have hsb : 4 ≤ 4 * wide ∧ 4 * wide ≤ 144 := by omega
  have hok : RowOk (4 * wide) (4 * wide) := ⟨by omega, by omega, by omega, rfl⟩
  have hzl : zp.length ≤ 5184 := by rw [hz]; calc high * (4 * wide) ≤ 36 * 144 := Nat.mul_le_mul hh.2 (by omega)
       _ = 5184 := rfl
  generalize hsize : 4 * wide = size at *
  have HZ : Hid _ := hz
  clear hz hsize
  have hmk := run_make_row' (P := Tryz.prog) 22 5 (.int .u8 0) 1 Tryz.underlying22 Tryz.info5 rfl .i64 .i64 size (by omega) (by omega)
  have hbW := hl.1
  have HL1 : Hid (Lie (W.alloc (.cells (madeCells #[Value.int .u8 0] size) 5)) b off zp) := Lie.nw hl (nw_alloc _ _)
  have HZ1 : Hid (Lie (W.alloc (.cells (madeCells #[Value.int .u8 0] size) 5)) W.heap.size 0 (List.replicate size 0)) := zeros_lie W size 5
  have HN1 : Hid (Nw W (W.alloc (.cells (madeCells #[Value.int .u8 0] size) 5))) := nw_alloc _ _
  have HS1 : Hid ((W.alloc (.cells (madeCells #[Value.int .u8 0] size) 5)).heap.size = W.heap.size + 1) := by show _ = _; simp
  have H8 : Hid _ := h8
  clear hl h8
  go_enter Tryz.func19, Tryz.ntmps19
  go_wp2
  clear hmk
  generalize W.alloc (.cells (madeCells #[Value.int .u8 0] size) 5) = W1 at *
  go_loopw [8, 9, 21] (fun av v i wr => ∃ k : Nat, k ≤ high ∧ i = .int .i64 k ∧ Own wr (W.heap.size + 1) v (rowsN zp size k) ∧ Below (W.heap.size + 1) W1 wr ∧ ∃ ba oa, av = .slice (some ⟨ba, oa, none⟩) size size ∧ ba < W.heap.size + 1 ∧ Lie W1 ba oa (abv zp size k)) (fun _ _ i _ => high - (intOf i).toNat)
  case atStart => exact ⟨0, Nat.zero_le _, rfl, Own.nil _ _, Below.refl _ _, W.heap.size, 0, rfl, by omega, by simpa [abv] using HZ1.out⟩
  case round =>
    obtain ⟨k, hk, rfl, ho, hbl, ba, oa, rfl, hba, hla⟩ := hrel
    have HO : Hid _ := ho
    have HB : Hid _ := hbl
    have HA : Hid _ := hla
    have hsw : W.heap.size + 1 ≤ wr.heap.size := by have := hbl.size; rw [HS1.out] at this; exact this
    clear ho hbl hla
    by_cases hlt : k < high
    · have hk1 : (k + 1) * size ≤ zp.length := by rw [HZ.out]; exact Nat.mul_le_mul_right _ hlt
      have hk0 : k * size ≤ zp.length := Nat.le_trans (Nat.mul_le_mul_right _ (Nat.le_succ k)) hk1
      have HR : Hid _ := irowAt wr b off zp.length c k size (by omega) hk1 (by omega) hc hcm
      have hrl := rowK_len zp size k hk1
      have hal := abv_len zp size k hk0
      have hnl := rowsN_len zp size k hk0
      have hnl2 : (rowsN zp size k).length ≤ 6000 := by
        rw [hnl]; calc k * (size + 1) ≤ 36 * 145 := Nat.mul_le_mul (by omega) (by omega)
           _ ≤ 6000 := by omega
      have lr : Lie W1 b (off + k * size) (rowK zp size k) := lie_sub HL1.out size k hk1
      have r8 := rowK_u8 zp size k H8.out
      have a8 := abv_u8 zp size k H8.out
      have HF : Hid (∀ w', Below (W.heap.size + 1) W1 w' → Calls Tryz.prog 42 #[.slice (some ⟨b, off + k * size, none⟩) size size, .slice (some ⟨ba, oa, none⟩) size size] w' fun e w2 => e = .returned (.tuple #[.int .i64 (best (rowK zp size k) (abv zp size k) : Int), .bool true]) ∧ Nw w' w2) :=
        fun w' h => ibestF w' b (off + k * size) size ba oa size size _ _ hok hrl hal (Lie.below lr h (by omega)) (Lie.below HA.out h hba) r8 a8
      have hbest := best_le (rowK zp size k) (abv zp size k)
      have HG : Hid (∀ w', Below (W.heap.size + 1) W1 w' → Calls Tryz.prog 9 #[.int .i64 (best (rowK zp size k) (abv zp size k) : Int), .slice (some ⟨b, off + k * size, none⟩) size size, .slice (some ⟨ba, oa, none⟩) size size] w' fun e w2 => ∃ g, e = .returned (.tuple #[.slice (some ⟨g, 0, none⟩) size size, .bool true]) ∧ Nw w' w2 ∧ w'.heap.size ≤ g ∧ At w2 g (filt (best (rowK zp size k) (abv zp size k)) (rowK zp size k) (abv zp size k))) :=
        fun w' h => ifilter w' _ hbest b (off + k * size) size ba oa size size _ _ hok hrl hal (Lie.below lr h (by omega)) (Lie.below HA.out h hba) r8 a8
      have hfl : (filt (best (rowK zp size k) (abv zp size k)) (rowK zp size k) (abv zp size k)).length = size := by rw [filt_len, hrl]
      have HN : Hid (rowsN zp size (k + 1) = rowsN zp size k ++ [(best (rowK zp size k) (abv zp size k) : Int)] ++ filt (best (rowK zp size k) (abv zp size k)) (rowK zp size k) (abv zp size k)) := rfl
      have HAB : Hid (abv zp size (k + 1) = rowK zp size k) := by show _ = _; simp [abv]
      have HLR : Hid _ := lr
      have HFL : Hid _ := hfl
      clear lr r8 a8 hrl hal hnl hk0 hk1 hfl
      generalize filt (best (rowK zp size k) (abv zp size k)) (rowK zp size k) (abv zp size k) = fs at *
      generalize best (rowK zp size k) (abv zp size k) = bk at *
      generalize rowsN zp size k = rs at *
      go_wp2_with fail
      refine Calls.mono HR.out ?_
      rintro e w2 ⟨rfl, rfl⟩
      clear HR
      go_wp2_with fail
      refine Calls.mono (HF.out _ HB.out) ?_
      rintro e w3 ⟨rfl, h1⟩
      have B3 : Hid (Below (W.heap.size + 1) W1 w3) := HB.out.trans (Below.mono h1 hsw)
      have hs3 : W.heap.size + 1 ≤ w3.heap.size := Nat.le_trans hsw (Below.size h1)
      have O3 : Hid _ := Own.nw HO.out h1
      clear h1 HO HB HF
      go_wp2_with fail
      refine Calls.mono (HG.out _ B3.out) ?_
      rintro e w4 ⟨g, rfl, h1, h2, h3⟩
      have B4 : Hid (Below (W.heap.size + 1) W1 w4) := B3.out.trans (Below.mono h1 hs3)
      have hs4 : W.heap.size + 1 ≤ w4.heap.size := Nat.le_trans hs3 (Below.size h1)
      have O4 : Hid _ := Own.nw O3.out h1
      have A4 : Hid (At w4 g fs) := h3
      have hap : ∀ q, u9.ownBlock = some q → q ≠ g := by
        intro q hq
        have := Own.lt O3.out q hq
        omega
      clear h1 h2 h3 O3 B3 HG
      have L4 : Hid (Lie (w4.alloc (.cells #[.int .u8 (bk : Int)] 5)) w4.heap.size 0 [(bk : Int)]) := lit_lie _ _ _ _ rfl
      have O5 : Hid (Own (w4.alloc (.cells #[.int .u8 (bk : Int)] 5)) (W.heap.size + 1) u9 rs) := Own.nw O4.out (nw_alloc _ _)
      go_wp2_with (first
        | (at_builtin; (refine wp_app _ rfl _ _ rfl (W.heap.size + 1) u9 rs [(bk : Int)] rfl O5.out w4.heap.size 0 1 1 rfl rfl L4.out ?c1 ?c2 ?_))
        | go_in)
      case c1 => omega
      case c2 => simp; omega
      intro v5 w5 h1 h2
      have O6 : Hid (Own w5 (W.heap.size + 1) v5 (rs ++ [(bk : Int)])) := h1
      have E6 : Hid (Ext u9 v5 w4 w5) := Nw.ext (nw_alloc _ _) h2
      have hs5 : W.heap.size + 1 ≤ w5.heap.size := Nat.le_trans hs4 (Ext.size E6.out)
      have hne : u9.ownBlock ≠ some g := fun e => hap g e rfl
      have L6 : Hid (Lie w5 g 0 fs) := Ext.lie E6.out (At.lie A4.out) hne
      have B6 : Hid (Below (W.heap.size + 1) W1 w5) := B4.out.trans (Ext.below E6.out (fun q hq => (Own.lt O4.out q hq).1) hs4)
      clear h1 h2 L4 O5 O4 A4 B4 hap hne
      go_wp2_with (first
        | (at_builtin; (refine wp_app _ rfl _ _ rfl (W.heap.size + 1) v5 (rs ++ [(bk : Int)]) fs rfl O6.out g 0 size size rfl HFL.out L6.out ?c1 hs5 ?_))
        | go_in)
      case c1 => simp; omega
      intro v6 w6 h1 h2
      have O7 : Hid (Own w6 (W.heap.size + 1) v6 (rowsN zp size (k + 1))) := by
        show Own w6 (W.heap.size + 1) v6 (rowsN zp size (k + 1))
        rw [HN.out]; simpa using h1
      have B7 : Hid (Below (W.heap.size + 1) W1 w6) := B6.out.trans (Ext.below h2 (fun q hq => (Own.lt O6.out q hq).1) hs5)
      clear h1 h2 L6 O6 B6
      go_wp2
      go_roundw
      case rel => exact ⟨k + 1, by omega, by go_num, O7.out, B7.out, b, off + k * size, rfl, by omega, by rw [HAB.out]; exact HLR.out⟩
      case measure => simp [intOf]; omega
    · have e : k = high := by omega
      subst e
      have hnw : Nw W wr := Nw.trans HN1.out (Below.mono HB.out (by rw [HS1.out]; exact Nat.le_refl _))
      have HR : Hid (Nw W wr ∧ Own wr W.heap.size u9 (rowsN zp size k)) := ⟨hnw, Own.base HO.out (by omega)⟩
      clear hnw HO HB HA
      go_wp2
      go_ret
      exact ⟨_, rfl, HR.out⟩
end Go.Proofs.YtaeicgfebeliiaaGreatDoor
namespace Go.Proofs.YtaeicgfebeliiaaGreatDoor
open Go.ChangeShapes Go.WideShapes Go.ChangeAt Go.RowKit
set_option linter.unusedVariables false

set_option maxHeartbeats 2000000 in
theorem putDistance_any (W : World) (S : Nat) (s : List Nat × Nat) (n : Nat) (ht : Tabs W) (hS : 4 ≤ S) (hn : 1 ≤ n) (hn2 : n ≤ 6000) (hl : s.1.length ≤ 800000) (hfi : Fine s) (hs : Sink W S s.1 s.2) :
    Calls Tryz.prog 84 #[.iface 91 (.pointer (some ⟨S, 0, none⟩)), .int .i64 n] W fun e w' => e = .returned (.tuple #[]) ∧ Sink w' S (puts (puts s (codeOf (dp n) 5)) (bitsOf (n - DB (dp n)) (DE (dp n)))).1 (puts (puts s (codeOf (dp n) 5)) (bitsOf (n - DB (dp n)) (DE (dp n)))).2 ∧ Below S W w' := by
  have hdp : dp n < 30 := by have := dn_le DB n 29; unfold dp; omega
  have hfit : DB (dp n) ≤ n := dn_fit DB n 29 (by show 1 ≤ n; exact hn)
  have hbd := DB_bd (dp n) hdp
  have HP : Hid (Calls Tryz.prog 98 #[.int .i64 n] W fun e w' => e = .returned (.int .i64 (dp n : Int)) ∧ w' = W) := distancePlace_any n W ht (by show 1 ≤ n; exact hn) (by omega)
  have HC1 : Hid (∀ k5 : Nat, k5 = 5 → Calls Tryz.prog 82 #[.iface 91 (.pointer (some ⟨S, 0, none⟩)), .int .i64 (dp n : Int), .int .i64 (k5 : Int)] W fun e w' => e = .returned (.tuple #[]) ∧ Sink w' S (puts s (codeOf (dp n) 5)).1 (puts s (codeOf (dp n) 5)).2 ∧ Below S W w') := by
    intro k5 hk5; subst hk5; exact putCode_any W S s (dp n) 5 (by omega) (by omega) (by omega) hfi hs
  have hpl := puts_len s (codeOf (dp n) 5)
  rw [codeOf_len] at hpl
  have hf2 := fine_puts s (codeOf (dp n) 5) hfi (codeOf_bits' _ _)
  have HC2 : Hid (∀ W', Sink W' S (puts s (codeOf (dp n) 5)).1 (puts s (codeOf (dp n) 5)).2 → Calls Tryz.prog 78 #[.iface 91 (.pointer (some ⟨S, 0, none⟩)), .int .i64 ((n : Int) - (DB (dp n) : Int)), .int .i64 (DE (dp n) : Int)] W' fun e w' => e = .returned (.tuple #[]) ∧ Sink w' S (puts (puts s (codeOf (dp n) 5)) (bitsOf (n - DB (dp n)) (DE (dp n)))).1 (puts (puts s (codeOf (dp n) 5)) (bitsOf (n - DB (dp n)) (DE (dp n)))).2 ∧ Below S W' w') := by
    intro W' h
    rw [show ((n : Int) - (DB (dp n) : Int)) = ((n - DB (dp n) : Nat) : Int) by omega]
    exact putNumber_any W' S _ (n - DB (dp n)) (DE (dp n)) (by omega) (by omega) (by omega) hf2 h
  have HT : Hid (Tabs W) := ht
  clear ht hf2 hpl
  generalize puts (puts s (codeOf (dp n) 5)) (bitsOf (n - DB (dp n)) (DE (dp n))) = s2 at *
  generalize puts s (codeOf (dp n) 5) = s1 at *
  go_enter Tryz.func84, Tryz.ntmps84
  go_wp2_with fail
  refine Calls.mono HP.out ?_
  rintro e W ⟨rfl, rfl⟩
  go_wp2_with fail
  refine Calls.mono (HC1.out 5 rfl) ?_
  rintro e w1 ⟨rfl, h1, h2⟩
  have HS1 : Hid (Sink w1 S s1.1 s1.2) := h1
  have HB1 : Hid (Below S W w1) := h2
  have ht1 := HT.out.below h2 hS
  have c2 := ht1.2.2.1 (dp n) hdp
  have c3 := ht1.2.2.2.1 (dp n) hdp
  clear h1 h2 ht1
  have x30 : (dp n : Int) < 30 := by omega
  generalize dp n = k at *
  generalize DB k = B at *
  generalize DE k = E at *
  have hw := IntWalk.i64_in ((n : Int) - (B : Int)) (by omega)
  go_wp2
  go_region_held3 (fun w' => w'.cell? ⟨2, k, none⟩ = some (.int .i64 (B : Int)) ∧ w'.cell? ⟨3, k, none⟩ = some (.int .i64 (E : Int))) (first | exact ⟨c2, c3⟩ | exact ⟨(HB2.out.cell (p := ⟨2, k, none⟩) (by show 2 < S; omega)).trans c2, (HB2.out.cell (p := ⟨3, k, none⟩) (by show 3 < S; omega)).trans c3⟩)
    (first
      | (go_at_call 78; refine Calls.mono (HC2.out _ ?_) ?_; exact HS1.out; rintro e w2 ⟨rfl, hs2, hb2⟩; have HS2 : Hid (Sink w2 S s2.1 s2.2) := hs2; have HB2 : Hid (Below S w1 w2) := (Below.refl S w1).drew.trans hb2; clear hs2 hb2))
  go_wp2
  go_returns
  exact ⟨rfl, HS2.out, HB1.out.trans HB2.out⟩
end Go.Proofs.YtaeicgfebeliiaaGreatDoor
