/-
  What the program's rowAt and filterRows do; each theorem names its conditions.
-/
import Derived.Test.YteehoihkbcbbgaaDoorEnc
import Derived.Test.YteehoihkbcbbgaaDoorBest
namespace Go.Proofs.YteehoihkbcbbgaaDoor
open Go.ChangeShapes Go.WideShapes Go.ChangeAt Go.RowKit
set_option linter.unusedVariables false

def rowK (zp : List Int) (size k : Nat) : List Int := (zp.drop (k * size)).take size
def abv (zp : List Int) (size k : Nat) : List Int := if k = 0 then List.replicate size 0 else rowK zp size (k - 1)
def rowsN (zp : List Int) (size : Nat) : Nat → List Int
  | 0 => []
  | k + 1 => rowsN zp size k ++ [(best (rowK zp size k) (abv zp size k) : Int)] ++ filt (best (rowK zp size k) (abv zp size k)) (rowK zp size k) (abv zp size k)
theorem rowK_len (zp : List Int) (size k : Nat) (h : (k + 1) * size ≤ zp.length) : (rowK zp size k).length = size := by
  have e : (k + 1) * size = k * size + size := by rw [Nat.add_mul, Nat.one_mul]
  simp [rowK]; omega
theorem rowK_get (zp : List Int) (size k i : Nat) (hi : i < size) : (rowK zp size k).getD i 0 = zp.getD (k * size + i) 0 := by
  simp only [rowK, List.getD_eq_getElem?_getD, List.getElem?_take, hi, if_true, List.getElem?_drop]
theorem rowK_u8 (zp : List Int) (size k : Nat) (h8 : ∀ z ∈ zp, 0 ≤ z ∧ z ≤ 255) : ∀ z ∈ rowK zp size k, 0 ≤ z ∧ z ≤ 255 := fun z hz => h8 z (List.mem_of_mem_drop (List.mem_of_mem_take hz))
theorem abv_u8 (zp : List Int) (size k : Nat) (h8 : ∀ z ∈ zp, 0 ≤ z ∧ z ≤ 255) : ∀ z ∈ abv zp size k, 0 ≤ z ∧ z ≤ 255 := by
  unfold abv
  split
  · intro z hz
    have := List.eq_of_mem_replicate hz
    omega
  · exact rowK_u8 zp size (k - 1) h8
theorem abv_len (zp : List Int) (size k : Nat) (h : k * size ≤ zp.length) : (abv zp size k).length = size := by
  unfold abv
  split
  · simp
  · rename_i hk
    have e : k - 1 + 1 = k := by omega
    exact rowK_len zp size (k - 1) (by rw [e]; exact h)
theorem rowsN_len (zp : List Int) (size k : Nat) (h : k * size ≤ zp.length) : (rowsN zp size k).length = k * (size + 1) := by
  induction k with
  | zero => simp [rowsN]
  | succ k ih =>
    have e : (k + 1) * size = k * size + size := by rw [Nat.add_mul, Nat.one_mul]
    have e2 : (k + 1) * (size + 1) = k * (size + 1) + (size + 1) := by rw [Nat.add_mul, Nat.one_mul]
    have h1 := ih (by omega)
    have h2 := rowK_len zp size k h
    simp only [rowsN, List.length_append, List.length_singleton, filt_len, h1, h2]
    omega
theorem rowsN_u8 (zp : List Int) (size k : Nat) : ∀ z ∈ rowsN zp size k, 0 ≤ z ∧ z ≤ 255 := by
  induction k with
  | zero => simp [rowsN]
  | succ k ih =>
    intro z hz
    simp only [rowsN, List.mem_append, List.mem_singleton] at hz
    rcases hz with (hz | rfl) | hz
    · exact ih z hz
    · have := best_le (rowK zp size k) (abv zp size k); omega
    · exact filt_u8 _ _ _ z hz
theorem lie_sub {w : World} {b off : Nat} {zp : List Int} (h : Lie w b off zp) (size k : Nat) (hk : (k + 1) * size ≤ zp.length) : Lie w b (off + k * size) (rowK zp size k) := by
  have e : (k + 1) * size = k * size + size := by rw [Nat.add_mul, Nat.one_mul]
  refine ⟨h.1, fun i hi => ?_⟩
  rw [rowK_len zp size k hk] at hi
  rw [rowK_get zp size k i hi, Nat.add_assoc]
  exact h.2 (k * size + i) (by omega)

theorem ret_slice {a : Option Addr} {m n : Nat} (h : m = n) : Ending.returned (.slice a m m) = .returned (.slice a n n) := by rw [h]
theorem irowAt (W : World) (b off n c k size : Nat) (hs : 0 < size) (hk : (k + 1) * size ≤ n) (hn : n ≤ 1048576) (hc : n ≤ c) (hcm : c ≤ 9223372036854775807) :
    Calls Tryd.prog 70 #[.slice (some ⟨b, off, none⟩) n c, .int .i64 (k : Int), .int .i64 (size : Int)] W fun e w' => e = .returned (.slice (some ⟨b, off + k * size, none⟩) size size) ∧ w' = W := by
  have e : (k + 1) * size = k * size + size := by rw [Nat.add_mul, Nat.one_mul]
  have hkn : k ≤ k * size := Nat.le_mul_of_pos_right k hs
  have e1 : (k : Int) * (size : Int) = ((k * size : Nat) : Int) := by simp
  have e2 : ((k : Int) + 1) * (size : Int) = ((k * size + size : Nat) : Int) := by rw [← e]; simp
  rw [e] at hk
  generalize k * size = A at *
  have HS : Hid (A + size - A = size) := by show _ = _; omega
  clear e
  have h1 : A < c := by omega
  have h2 : A + size ≤ c := by omega
  go_enter Tryd.func70, Tryd.ntmps70
  go_wp2
  go_ret
  exact ⟨(ret_slice HS.out : Ending.returned (.slice (some ⟨b, off + A, none⟩) (A + size - A) (A + size - A)) = _), rfl⟩

theorem zeros_lie (w : World) (n : Nat) (t : TypeId) : Lie (w.alloc (.cells (madeCells #[Value.int .u8 0] n) t)) w.heap.size 0 (List.replicate n 0) := by
  have h := Lay.start w w w.heap.size n (List.replicate n 0) t (by simp) rfl (Below.refl _ _)
  refine ⟨h.2.1, fun i hi => ?_⟩
  rw [h.2.2.2.1 i (Nat.zero_le _) hi]
  simp at hi
  simp [hi]
set_option maxHeartbeats 8000000 in
theorem ifilterRows (W : World) (b off c wide high : Nat) (zp : List Int) (hw : 1 ≤ wide ∧ wide ≤ 36) (hh : 1 ≤ high ∧ high ≤ 36) (hz : zp.length = high * (4 * wide)) (hc : zp.length ≤ c) (hcm : c ≤ 9223372036854775807) (h8 : ∀ z ∈ zp, 0 ≤ z ∧ z ≤ 255) (hl : Lie W b off zp) :
    Calls Tryd.prog 40 #[.int .i64 (wide : Int), .int .i64 (high : Int), .slice (some ⟨b, off, none⟩) zp.length c] W fun e w' => ∃ v, e = .returned v ∧ Nw W w' ∧ Own w' W.heap.size v (rowsN zp (4 * wide) high) := by
  have hsz : 4 * (wide : Int) = ((4 * wide : Nat) : Int) := by simp
  have hsb : 4 ≤ 4 * wide ∧ 4 * wide ≤ 144 := by omega
  have hok : RowOk (4 * wide) (4 * wide) := ⟨by omega, by omega, by omega, rfl⟩
  have hzl : zp.length ≤ 5184 := by rw [hz]; calc high * (4 * wide) ≤ 36 * 144 := Nat.mul_le_mul hh.2 (by omega)
       _ = 5184 := rfl
  generalize hsize : 4 * wide = size at *
  have HZ : Hid _ := hz
  clear hz hsize
  have hmk := run_make_row' (P := Tryd.prog) 22 5 (.int .u8 0) 1 Tryd.underlying22 Tryd.info5 rfl .i64 .i64 size (by omega) (by omega)
  have hbW := hl.1
  have HL1 : Hid (Lie (W.alloc (.cells (madeCells #[Value.int .u8 0] size) 5)) b off zp) := Lie.nw hl (nw_alloc _ _)
  have HZ1 : Hid (Lie (W.alloc (.cells (madeCells #[Value.int .u8 0] size) 5)) W.heap.size 0 (List.replicate size 0)) := zeros_lie W size 5
  have HN1 : Hid (Nw W (W.alloc (.cells (madeCells #[Value.int .u8 0] size) 5))) := nw_alloc _ _
  have HS1 : Hid ((W.alloc (.cells (madeCells #[Value.int .u8 0] size) 5)).heap.size = W.heap.size + 1) := by show _ = _; simp
  have H8 : Hid _ := h8
  clear hl h8
  go_enter Tryd.func40, Tryd.ntmps40
  go_wp2
  clear hmk
  generalize W.alloc (.cells (madeCells #[Value.int .u8 0] size) 5) = W1 at *
  go_loopw [8, 9, 21] (fun av v i wr => ∃ k : Nat, k ≤ high ∧ i = .int .i64 k ∧ Own wr (W.heap.size + 1) v (rowsN zp size k) ∧ Below (W.heap.size + 1) W1 wr ∧ ∃ ba oa, av = .slice (some ⟨ba, oa, none⟩) size size ∧ ba < W.heap.size + 1 ∧ Lie W1 ba oa (abv zp size k)) (fun _ _ i _ => high - (intOf i).toNat)
  case atStart => exact ⟨0, Nat.zero_le _, rfl, Own.nil _ _, Below.refl _ _, W.heap.size, 0, rfl, by omega, by simpa [abv] using HZ1.out⟩
  case round =>
    obtain ⟨k, hk, rfl, ho, hbl, ba, oa, rfl, hba, hla⟩ := hrel
    have HO : Hid _ := ho
    have HB : Hid _ := hbl
    have HA : Hid _ := hla
    have hsw : W.heap.size + 1 ≤ wr.heap.size := by have := hbl.size; rw [HS1.out] at this; exact this
    clear ho hbl hla
    by_cases hlt : k < high
    · have hk1 : (k + 1) * size ≤ zp.length := by rw [HZ.out]; exact Nat.mul_le_mul_right _ hlt
      have hk0 : k * size ≤ zp.length := Nat.le_trans (Nat.mul_le_mul_right _ (Nat.le_succ k)) hk1
      have HR : Hid _ := irowAt wr b off zp.length c k size (by omega) hk1 (by omega) hc hcm
      have hrl := rowK_len zp size k hk1
      have hal := abv_len zp size k hk0
      have hnl := rowsN_len zp size k hk0
      have hnl2 : (rowsN zp size k).length ≤ 6000 := by
        rw [hnl]; calc k * (size + 1) ≤ 36 * 145 := Nat.mul_le_mul (by omega) (by omega)
           _ ≤ 6000 := by omega
      have lr : Lie W1 b (off + k * size) (rowK zp size k) := lie_sub HL1.out size k hk1
      have r8 := rowK_u8 zp size k H8.out
      have a8 := abv_u8 zp size k H8.out
      have HF : Hid (∀ w', Below (W.heap.size + 1) W1 w' → Calls Tryd.prog 71 #[.slice (some ⟨b, off + k * size, none⟩) size size, .slice (some ⟨ba, oa, none⟩) size size] w' fun e w2 => e = .returned (.tuple #[.int .i64 (best (rowK zp size k) (abv zp size k) : Int), .bool true]) ∧ Nw w' w2) :=
        fun w' h => ibestF w' b (off + k * size) size ba oa size size _ _ hok hrl hal (Lie.below lr h (by omega)) (Lie.below HA.out h hba) r8 a8
      have hbest := best_le (rowK zp size k) (abv zp size k)
      have HG : Hid (∀ w', Below (W.heap.size + 1) W1 w' → Calls Tryd.prog 72 #[.int .i64 (best (rowK zp size k) (abv zp size k) : Int), .slice (some ⟨b, off + k * size, none⟩) size size, .slice (some ⟨ba, oa, none⟩) size size] w' fun e w2 => ∃ g, e = .returned (.tuple #[.slice (some ⟨g, 0, none⟩) size size, .bool true]) ∧ Nw w' w2 ∧ w'.heap.size ≤ g ∧ At w2 g (filt (best (rowK zp size k) (abv zp size k)) (rowK zp size k) (abv zp size k))) :=
        fun w' h => ifilter w' _ hbest b (off + k * size) size ba oa size size _ _ hok hrl hal (Lie.below lr h (by omega)) (Lie.below HA.out h hba) r8 a8
      have hfl : (filt (best (rowK zp size k) (abv zp size k)) (rowK zp size k) (abv zp size k)).length = size := by rw [filt_len, hrl]
      have HN : Hid (rowsN zp size (k + 1) = rowsN zp size k ++ [(best (rowK zp size k) (abv zp size k) : Int)] ++ filt (best (rowK zp size k) (abv zp size k)) (rowK zp size k) (abv zp size k)) := rfl
      have HAB : Hid (abv zp size (k + 1) = rowK zp size k) := by show _ = _; simp [abv]
      have HLR : Hid _ := lr
      have HFL : Hid _ := hfl
      clear lr r8 a8 hrl hal hnl hk0 hk1 hfl
      generalize filt (best (rowK zp size k) (abv zp size k)) (rowK zp size k) (abv zp size k) = fs at *
      generalize best (rowK zp size k) (abv zp size k) = bk at *
      generalize rowsN zp size k = rs at *
      go_wp2_with fail
      refine Calls.mono HR.out ?_
      rintro e w2 ⟨rfl, rfl⟩
      clear HR
      go_wp2_with fail
      refine Calls.mono (HF.out _ HB.out) ?_
      rintro e w3 ⟨rfl, h1⟩
      have B3 : Hid (Below (W.heap.size + 1) W1 w3) := HB.out.trans (Below.mono h1 hsw)
      have hs3 : W.heap.size + 1 ≤ w3.heap.size := Nat.le_trans hsw (Below.size h1)
      have O3 : Hid _ := Own.nw HO.out h1
      clear h1 HO HB HF
      go_wp2_with fail
      refine Calls.mono (HG.out _ B3.out) ?_
      rintro e w4 ⟨g, rfl, h1, h2, h3⟩
      have B4 : Hid (Below (W.heap.size + 1) W1 w4) := B3.out.trans (Below.mono h1 hs3)
      have hs4 : W.heap.size + 1 ≤ w4.heap.size := Nat.le_trans hs3 (Below.size h1)
      have O4 : Hid _ := Own.nw O3.out h1
      have A4 : Hid (At w4 g fs) := h3
      have hap : ∀ q, u9.ownBlock = some q → q ≠ g := by
        intro q hq
        have := Own.lt O3.out q hq
        omega
      clear h1 h2 h3 O3 B3 HG
      have L4 : Hid (Lie (w4.alloc (.cells #[.int .u8 (bk : Int)] 5)) w4.heap.size 0 [(bk : Int)]) := lit_lie _ _ _ _ rfl
      have O5 : Hid (Own (w4.alloc (.cells #[.int .u8 (bk : Int)] 5)) (W.heap.size + 1) u9 rs) := Own.nw O4.out (nw_alloc _ _)
      go_wp2_with (first
        | (at_builtin; (refine wp_app _ rfl _ _ rfl (W.heap.size + 1) u9 rs [(bk : Int)] rfl O5.out w4.heap.size 0 1 1 rfl rfl L4.out ?c1 ?c2 ?_))
        | go_in)
      case c1 => omega
      case c2 => simp; omega
      intro v5 w5 h1 h2
      have O6 : Hid (Own w5 (W.heap.size + 1) v5 (rs ++ [(bk : Int)])) := h1
      have E6 : Hid (Ext u9 v5 w4 w5) := Nw.ext (nw_alloc _ _) h2
      have hs5 : W.heap.size + 1 ≤ w5.heap.size := Nat.le_trans hs4 (Ext.size E6.out)
      have hne : u9.ownBlock ≠ some g := fun e => hap g e rfl
      have L6 : Hid (Lie w5 g 0 fs) := Ext.lie E6.out (At.lie A4.out) hne
      have B6 : Hid (Below (W.heap.size + 1) W1 w5) := B4.out.trans (Ext.below E6.out (fun q hq => (Own.lt O4.out q hq).1) hs4)
      clear h1 h2 L4 O5 O4 A4 B4 hap hne
      go_wp2_with (first
        | (at_builtin; (refine wp_app _ rfl _ _ rfl (W.heap.size + 1) v5 (rs ++ [(bk : Int)]) fs rfl O6.out g 0 size size rfl HFL.out L6.out ?c1 hs5 ?_))
        | go_in)
      case c1 => simp; omega
      intro v6 w6 h1 h2
      have O7 : Hid (Own w6 (W.heap.size + 1) v6 (rowsN zp size (k + 1))) := by
        show Own w6 (W.heap.size + 1) v6 (rowsN zp size (k + 1))
        rw [HN.out]; simpa using h1
      have B7 : Hid (Below (W.heap.size + 1) W1 w6) := B6.out.trans (Ext.below h2 (fun q hq => (Own.lt O6.out q hq).1) hs5)
      clear h1 h2 L6 O6 B6
      go_wp2
      go_roundw
      case rel => exact ⟨k + 1, by omega, by go_num, O7.out, B7.out, b, off + k * size, rfl, by omega, by rw [HAB.out]; exact HLR.out⟩
      case measure => simp [intOf]; omega
    · have e : k = high := by omega
      subst e
      have hnw : Nw W wr := Nw.trans HN1.out (Below.mono HB.out (by rw [HS1.out]; exact Nat.le_refl _))
      have HR : Hid (Nw W wr ∧ Own wr W.heap.size u9 (rowsN zp size k)) := ⟨hnw, Own.base HO.out (by omega)⟩
      clear hnw HO HB HA
      go_wp2
      go_ret
      exact ⟨_, rfl, HR.out⟩
end Go.Proofs.YteehoihkbcbbgaaDoor
