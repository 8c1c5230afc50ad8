/-
  What the specification's bits that are laid down (l2Bits) do with one bit; each theorem names its conditions.
  What laying a number or a code does, of the program and of the specification; each theorem names its conditions.
  Where a length and a distance lie in their tables, of the program and of the specification; each theorem names its conditions.
  Lists of numbers by their places, the number of lengths, and the codes of a row of lengths: pure facts, without the program; no condition but those of each line.
-/
import Derived.Test.YtaeicgfebeliiaaGreatDoorJAA
namespace Go.Proofs.YtaeicgfebeliiaaGreatDoor
open Go.ChangeShapes Go.WideShapes Go.ChangeAt Go.RowKit
set_option linter.unusedVariables false

/-- The bits in the block S: the bytes bs, and how many bits there are. -/
def SB (w : World) (S : Nat) (bs : List Nat) (m : Nat) : Prop :=
  ∃ v, w.cell? ⟨S, 0, none⟩ = some v ∧ w.cell? ⟨S, 1, none⟩ = some (.int .i64 m) ∧ (∀ o, w.frozen? ⟨S, o, none⟩ = false) ∧ S < w.heap.size ∧ w.ownsRow (S + 1) 5 1 v bs.length (bc bs)

theorem sb_put (W : World) (S g cap : Nat) (bs : List Nat) (a V u : Nat)
    (h0 : W.cell? ⟨S, 0, none⟩ = some (.slice (some ⟨g, 0, none⟩) (bs.length + 1) cap)) (h1 : ∃ z, W.cell? ⟨S, 1, none⟩ = some z) (hf : ∀ o, W.frozen? ⟨S, o, none⟩ = false)
    (hown : W.ownsRow (S + 1) 5 1 (.slice (some ⟨g, 0, none⟩) (bs.length + 1) cap) (bs.length + 1) (bc (bs ++ [a]))) :
    SB ((W.setCell ⟨g, bs.length, none⟩ (.int .u8 (V : Int))).setCell ⟨S, 1, none⟩ (.int .i64 (u : Int))) S (bs ++ [V]) u ∧ Below S W ((W.setCell ⟨g, bs.length, none⟩ (.int .u8 (V : Int))).setCell ⟨S, 1, none⟩ (.int .i64 (u : Int))) := by
  obtain ⟨z, h1⟩ := h1
  have hg := hown.lt g rfl
  have hS : S < W.heap.size := World.block_lt_of_cell? _ _ h0
  obtain ⟨s1, s2⟩ := hown.stored bs.length (.int .u8 (V : Int))
  refine ⟨⟨.slice (some ⟨g, 0, none⟩) (bs.length + 1) cap, ?_, ?_, ?_, by simpa [World.setCell] using hS, ?_⟩, ?_⟩
  · rw [World.cell?_setCell_other _ _ _ _ (fun h => by injection h; omega), World.cell?_setCell_other _ _ _ _ (fun h => by injection h; omega)]; exact h0
  · apply World.cell?_setCell_same (u := z)
    rw [World.cell?_setCell_other _ _ _ _ (fun h => by injection h; omega)]; exact h1
  · intro o; rw [World.frozen?_setCell, World.frozen?_setCell]; exact hf o
  · have e : (bc (bs ++ [a])).set bs.length (.int .u8 (V : Int)) = bc (bs ++ [V]) := by
      simp [bc]
    rw [e] at s1
    have := own_other s1 S 1 (.int .i64 (u : Int)) (by omega)
    simpa using this
  · exact ((Below.refl S W).setCell (show S ≤ (Addr.mk g bs.length none).block by show S ≤ g; omega) _).setCell (show S ≤ (Addr.mk S 1 none).block from Nat.le_refl S) _

set_option maxHeartbeats 2000000 in
theorem bit_more (W : World) (S : Nat) (cs : List Nat) (a x u : Nat) (ha : a < 2 ^ u) (hx : x ≤ 1) (m0 : Nat) (hmu : m0 % 8 = u) (hm0 : m0 ≤ 1000000) (hu0 : u ≠ 0) (hl : cs.length ≤ 1000000) (hs : SB W S (cs ++ [a]) m0) :
    Calls Tryz.prog 112 #[.pointer (some ⟨S, 0, none⟩), .int .i64 x] W fun e w' => e = .returned (.tuple #[]) ∧ SB w' S (stp (cs ++ [a], u) x).1 (m0 + 1) ∧ Below S W w' := by
  rw [stp_more cs a u x hu0]
  obtain ⟨v, h0, h1, hf, hS, hown⟩ := hs
  have hn : (cs ++ [a]).length = cs.length + 1 := by simp
  rw [hn] at hown
  have hform := hown.2
  rcases hform with ⟨_, h⟩ | ⟨g, cap, cur, rfl, hg1, hg2, hg3, hg4, hg5, hg6⟩
  · omega
  have HP : Hid (∀ V : Nat, SB ((W.setCell ⟨g, cs.length, none⟩ (.int .u8 (V : Int))).setCell ⟨S, 1, none⟩ (.int .i64 ((m0 + 1 : Nat) : Int))) S (cs ++ [V]) (m0 + 1) ∧ Below S W ((W.setCell ⟨g, cs.length, none⟩ (.int .u8 (V : Int))).setCell ⟨S, 1, none⟩ (.int .i64 ((m0 + 1 : Nat) : Int)))) :=
    fun V => sb_put W S g cap cs a V _ h0 ⟨_, h1⟩ hf hown
  have hcell : W.cell? ⟨g, cs.length, none⟩ = some (.int .u8 (a : Int)) := by
    rw [hown.cellAt cs.length (by omega)]; simp [bc]
  have fg := hown.frozenAt cs.length
  have fS := hf 1
  have hu : u < 8 := by omega
  have hmu' : (m0 : Int) % 8 = (u : Int) := by omega
  have hz : ((u : Int) == 0) = false := by rw [beq_eq_false_iff_ne]; omega
  have q1 : ∀ V, (W.setCell ⟨g, cs.length, none⟩ V).cell? ⟨S, 1, none⟩ = some (.int .i64 m0) := fun V => by
    rw [World.cell?_setCell_other _ _ _ _ (fun h => by injection h; omega)]; exact h1
  have hor := or_byte a x u ha hx hu
  have hgS : g ≠ S := by omega
  have e8 : ((m0 + 1 : Nat) : Int) = (m0 : Int) + 1 := by omega
  rw [e8] at HP
  generalize hV : a + x * 2 ^ u = V at *
  have HPV := HP.out V
  have HPV' : Hid _ := HPV
  clear HPV HP hV hmu hown hg2 hg5 hg6 hf
  generalize cs.length = m at *
  generalize cs ++ [V] = ds at *
  go_enter Tryz.func112, Tryz.ntmps112
  go_wp2
  go_region
  go_wp2
  go_returns
  exact ⟨rfl, HPV'.out.1, HPV'.out.2.drew⟩


set_option maxHeartbeats 2000000 in
theorem bit_zero (W : World) (S : Nat) (cs : List Nat) (x : Nat) (hx : x ≤ 1) (m0 : Nat) (hmu : m0 % 8 = 0) (hm0 : m0 ≤ 1000000) (hl : cs.length ≤ 1000000) (hs : SB W S cs m0) :
    Calls Tryz.prog 112 #[.pointer (some ⟨S, 0, none⟩), .int .i64 x] W fun e w' => e = .returned (.tuple #[]) ∧ SB w' S (stp (cs, 0) x).1 (m0 + 1) ∧ Below S W w' := by
  rw [stp_zero]
  obtain ⟨v, h0, h1, hf, hS, hown⟩ := hs
  obtain ⟨i0, hi, hz0, hz1, hz2⟩ := info_parts Tryz.info5
  have hsh : ∃ a n c, v = .slice a n c := by
    rcases hown.2 with ⟨rfl, _⟩ | ⟨g, cap, cur, rfl, _⟩
    · exact ⟨_, _, _, rfl⟩
    · exact ⟨_, _, _, rfl⟩
  have hvS : v.ownBlock ≠ some S := fun e => by have := hown.lt S e; omega
  have f0 := hf 0
  have HF : Hid _ := hf
  have H1 : Hid _ := h1
  have HO : Hid (W.ownsRow (S + 1) 5 1 v cs.length (bc cs)) := hown
  have ho2 := hown.alloc (.cells #[.int .u8 0] 5)
  have HO2 : Hid ((W.alloc (.cells #[.int .u8 0] 5)).ownsRow (S + 1) 5 1 v cs.length (bc cs)) := ho2
  clear hf hown ho2
  obtain ⟨a, n, c, rfl⟩ := hsh
  have hmu' : (m0 : Int) % 8 = 0 := by omega
  clear hmu
  go_enter Tryz.func112, Tryz.ntmps112
  go_wp2_with (first
    | (at_builtin; refine wpList_append_own _ rfl _ _ 22 rfl (S + 1) 5 i0 (.int .u8 0) 1 1 Tryz.underlying22 hi hz0 hz1 hz2 rfl (by decide) _ _ _ rfl HO2.out ⟨W.heap.size, 0, none⟩ 1 1 [.int .u8 0] rfl rfl ?c1 ?c2 ?c3 ?c4 ?c5 ?_)
    | go_in)
  case c1 =>
    intro j u hj
    match j, hj with
    | 0, hj => simp at hj; subst hj; simp [Addr.add]
  case c2 => intro u hu; simp at hu; subst hu; rfl
  case c3 => unfold maxLen; omega
  case c4 => omega
  case c5 => simp; omega
  intro v' w1 hown' hgrow hnn
  have hsz := hgrow.size
  simp at hsz
  have hform := hown'.2
  rcases hform with ⟨h, _⟩ | ⟨g, cap, cur, rfl, hg1, hg2, hg3, hg4, hg5, hg6⟩
  · exact absurd h hnn
  rw [show (Value.int .u8 0) = Value.int .u8 ((0 : Nat) : Int) from rfl, bc_snoc] at hown'
  have c0 : (W.alloc (.cells #[.int .u8 0] 5)).cell? ⟨S, 0, none⟩ = some (.slice a n c) := by rw [World.cell?_alloc_past _ _ _ hS]; exact h0
  have c1 : (W.alloc (.cells #[.int .u8 0] 5)).cell? ⟨S, 1, none⟩ = some (.int .i64 (m0 : Int)) := by rw [World.cell?_alloc_past _ _ _ hS]; exact h1
  have d0 := hgrow.cell c0 (fun e => hvS e.symm)
  have d1 := hgrow.cell c1 (fun e => hvS e.symm)
  have df : ∀ o, w1.frozen? ⟨S, o, none⟩ = false := fun o => by
    rw [hgrow.frozen_far ⟨S, o, none⟩ (by show S < _; simp; omega) (fun e => hvS e.symm), World.frozen?_alloc_past _ _ _ hS]; exact HF.out o
  have f0' := df 0
  have hbel : Below S W w1 := by
    have hb0 : Below S W (W.alloc (.cells #[.int .u8 0] 5)) := (Below.refl S W).alloc (by omega) _
    refine hb0.trans ⟨hgrow.os, hgrow.tape, hgrow.output, hgrow.size, fun k hk => hgrow.block k (by simp; omega) (fun e => ?_)⟩
    have := World.ownsRow.lt HO.out k e.symm
    omega
  have HB2 : Hid (Below S W (w1.setCell ⟨S, 0, none⟩ (.slice (some ⟨g, 0, none⟩) (cs.length + 1) cap))) := hbel.setCell (show S ≤ (Addr.mk S 0 none).block from Nat.le_refl S) _
  have k0 : (w1.setCell ⟨S, 0, none⟩ (.slice (some ⟨g, 0, none⟩) (cs.length + 1) cap)).cell? ⟨S, 0, none⟩ = some (.slice (some ⟨g, 0, none⟩) (cs.length + 1) cap) := World.cell?_setCell_same w1 ⟨S, 0, none⟩ _ d0
  have k1 : (w1.setCell ⟨S, 0, none⟩ (.slice (some ⟨g, 0, none⟩) (cs.length + 1) cap)).cell? ⟨S, 1, none⟩ = some (.int .i64 (m0 : Int)) := by
    rw [World.cell?_setCell_other _ _ _ _ (fun h => by injection h; omega)]; exact d1
  have hown2 := own_other hown' S 0 (.slice (some ⟨g, 0, none⟩) (cs.length + 1) cap) (by omega)
  have kf : ∀ o, (w1.setCell ⟨S, 0, none⟩ (.slice (some ⟨g, 0, none⟩) (cs.length + 1) cap)).frozen? ⟨S, o, none⟩ = false := fun o => by rw [World.frozen?_setCell]; exact df o
  have HP0 := sb_put _ S g cap cs 0 x (m0 + 1) k0 ⟨_, k1⟩ kf hown2
  rw [show ((m0 + 1 : Nat) : Int) = (m0 : Int) + 1 by omega] at HP0
  have HP : Hid _ := HP0
  clear HP0
  have hcell : (w1.setCell ⟨S, 0, none⟩ (.slice (some ⟨g, 0, none⟩) (cs.length + 1) cap)).cell? ⟨g, cs.length, none⟩ = some (.int .u8 ((0 : Nat) : Int)) := by
    rw [hown2.cellAt cs.length (by omega)]; simp [bc]
  have fg := hown2.frozenAt cs.length
  have fS := kf 1
  have hgS : g ≠ S := by omega
  clear hown2 hown' kf df hbel hg2 hg5 hg6 hgrow c0 c1 HO HF H1 HO2 d1 hnn
  go_wp2
  clear f0' d0
  generalize w1.setCell ⟨S, 0, none⟩ (.slice (some ⟨g, 0, none⟩) (cs.length + 1) cap) = W2 at *
  have q1 : ∀ V, (W2.setCell ⟨g, cs.length, none⟩ V).cell? ⟨S, 1, none⟩ = some (.int .i64 (m0 : Int)) := fun V => by
    rw [World.cell?_setCell_other _ _ _ _ (fun h => by injection h; omega)]; exact k1
  have hor : bits .or .u8 0 (x : Int) = (x : Int) := by
    have h := (bits_nat .u8 8 (by decide) (fun n h0 h2 => by rw [IntKind.wrap_u8]; omega) 0 x (by omega) (by omega)).2
    rw [Nat.zero_or] at h; exact h
  go_region
  go_wp2
  go_returns
  exact ⟨rfl, HP.out.1, (Below.trans HB2.out HP.out.2).drew⟩

theorem stp_u (bs : List Nat) (m x : Nat) : (stp (bs, m % 8) x).2 = (m + 1) % 8 := by
  unfold stp
  split
  · rename_i h; dsimp only at h ⊢; omega
  · dsimp only; omega
theorem bit_any (W : World) (S : Nat) (bs : List Nat) (m x : Nat) (hx : x ≤ 1) (hm : m ≤ 1000000) (hl : bs.length ≤ 1000000) (hfi : Fine (bs, m % 8)) (hs : SB W S bs m) :
    Calls Tryz.prog 112 #[.pointer (some ⟨S, 0, none⟩), .int .i64 x] W fun e w' => e = .returned (.tuple #[]) ∧ SB w' S (stp (bs, m % 8) x).1 (m + 1) ∧ Below S W w' := by
  by_cases hu : m % 8 = 0
  · rw [hu]; exact bit_zero W S bs x hx m hu hm hl hs
  · obtain ⟨h1, h2, h3⟩ := hfi
    obtain ⟨cs, a, e, ha⟩ := h3 hu
    dsimp only at e ha h1
    subst e
    exact bit_more W S cs a x (m % 8) ha hx m rfl hm hu (by simp at hl; omega) hs
theorem puts_u (bs : List Nat) (m : Nat) (xs : List Nat) : (puts (bs, m % 8) xs).2 = (m + xs.length) % 8 := by
  induction xs generalizing bs m with
  | nil => rfl
  | cons x xs ih =>
    show (puts (stp (bs, m % 8) x) xs).2 = _
    have e : stp (bs, m % 8) x = ((stp (bs, m % 8) x).1, (m + 1) % 8) := by rw [← stp_u bs m x]
    rw [e, ih, List.length_cons]
    congr 1; omega
/-- The bits of a code, the highest first: of k bits those from the i-th on that have been laid. -/
def codeOf (n k : Nat) : List Nat := (List.range k).map (fun i => n / 2 ^ (k - 1 - i) % 2)
theorem codeOf_len (n k : Nat) : (codeOf n k).length = k := by simp [codeOf]
theorem codeOf_take (n k j : Nat) (hj : j < k) : (codeOf n k).take (j + 1) = (codeOf n k).take j ++ [n / 2 ^ (k - 1 - j) % 2] := by
  rw [List.take_succ_eq_append_getElem (by rw [codeOf_len]; exact hj)]
  simp [codeOf]
theorem fine_puts (s : List Nat × Nat) (xs : List Nat) (h : Fine s) (hx : ∀ x ∈ xs, x ≤ 1) : Fine (puts s xs) := by
  induction xs generalizing s with
  | nil => exact h
  | cons x xs ih => exact ih (stp s x) (fine_step s x h (hx x (by simp))) (fun y hy => hx y (by simp [hy]))
theorem codeOf_bits (n k j : Nat) : ∀ x ∈ (codeOf n k).take j, x ≤ 1 := by
  intro x hx
  have := List.mem_of_mem_take hx
  simp [codeOf] at this
  obtain ⟨i, _, rfl⟩ := this
  omega
theorem bitsOf_bits (n k : Nat) : ∀ x ∈ bitsOf n k, x ≤ 1 := by
  intro x hx
  simp [bitsOf] at hx
  obtain ⟨i, _, rfl⟩ := hx
  omega
end Go.Proofs.YtaeicgfebeliiaaGreatDoor
namespace Go.Proofs.YtaeicgfebeliiaaGreatDoor
open Go.ChangeShapes Go.WideShapes Go.ChangeAt Go.RowKit
set_option linter.unusedVariables false

theorem and_one (d : Nat) (h : d < 1152921504606846976) : bits .and .i64 (d : Int) 1 = ((d % 2 : Nat) : Int) := by
  have h := (bits_nat .i64 60 (by decide) (fun m h0 h2 => by rw [IntKind.wrap_i64]; omega) d 1 (by omega) (by omega)).1
  rw [Nat.and_one_is_mod] at h; exact h

set_option maxHeartbeats 4000000 in
theorem number_any (W : World) (S : Nat) (bs : List Nat) (m n k : Nat) (hn : n < 65536) (hk : k ≤ 16) (hm : m ≤ 900000) (hl : bs.length ≤ 900000) (hfi : Fine (bs, m % 8)) (hs : SB W S bs m) :
    Calls Tryz.prog 101 #[.pointer (some ⟨S, 0, none⟩), .int .i64 n, .int .i64 k] W fun e w' => e = .returned (.tuple #[]) ∧ SB w' S (puts (bs, m % 8) (bitsOf n k)).1 (m + k) ∧ Below S W w' := by
  go_enter Tryz.func101, Tryz.ntmps101
  go_wp2
  go_loopw [6] (fun i wr => ∃ j : Nat, j ≤ k ∧ i = .int .i64 j ∧ SB wr S (puts (bs, m % 8) (bitsOf n j)).1 (m + j) ∧ Below S W wr) (fun i _ => k - (intOf i).toNat)
  case atStart => exact ⟨0, Nat.zero_le _, rfl, hs, Below.refl _ _⟩
  case round =>
    obtain ⟨j, hj, rfl, hsj, hbj⟩ := hrel
    have HS : Hid (SB wr S (puts (bs, m % 8) (bitsOf n j)).1 (m + j)) := hsj
    have HB : Hid (Below S W wr) := hbj
    clear hsj hbj
    by_cases hlt : j < k
    · have HC : Hid (Calls Tryz.prog 112 #[.pointer (some ⟨S, 0, none⟩), .int .i64 (((n / 2 ^ j : Nat) : Int) % 2)] wr fun e w' => e = .returned (.tuple #[]) ∧ SB w' S (puts (bs, m % 8) (bitsOf n (j + 1))).1 (m + j + 1) ∧ Below S wr w') := by
        have hu := puts_u bs m (bitsOf n j)
        rw [bitsOf_len] at hu
        have e : puts (bs, m % 8) (bitsOf n j) = ((puts (bs, m % 8) (bitsOf n j)).1, (m + j) % 8) := by rw [← hu]
        have hpl := puts_len (bs, m % 8) (bitsOf n j)
        rw [bitsOf_len] at hpl
        dsimp only at hpl
        have h := bit_any wr S (puts (bs, m % 8) (bitsOf n j)).1 (m + j) (n / 2 ^ j % 2) (by omega) (by omega) (by omega) (by rw [← e]; exact puts_fine _ _ _ hfi) HS.out
        rw [← e, ← puts_snoc, ← bitsOf_succ] at h
        rw [show (((n / 2 ^ j : Nat) : Int) % 2) = ((n / 2 ^ j % 2 : Nat) : Int) by omega]
        exact h
      have hd : ((n : Int) / 2 ^ j) = ((n / 2 ^ j : Nat) : Int) := by simp
      have hq : n / 2 ^ j ≤ n := Nat.div_le_self _ _
      have ha := and_one (n / 2 ^ j) (by omega)
      generalize n / 2 ^ j = d at *
      go_wp2_with fail
      refine Calls.mono HC.out ?_
      rintro e w2 ⟨rfl, hs2, hb2⟩
      have HS2 : Hid (SB w2 S (puts (bs, m % 8) (bitsOf n (j + 1))).1 (m + (j + 1))) := hs2
      have HB2 : Hid (Below S W w2) := HB.out.trans hb2
      clear hs2 hb2
      go_wp2
      go_roundw
      case rel => exact ⟨j + 1, by omega, by go_num, HS2.out, HB2.out⟩
      case measure => simp [intOf]; omega
    · have e : j = k := by omega
      subst e
      go_wp2
      go_returns
      exact ⟨rfl, HS.out, HB.out⟩

set_option maxHeartbeats 4000000 in
theorem code_any (W : World) (S : Nat) (bs : List Nat) (m n k : Nat) (hn : n < 65536) (hk : k ≤ 16) (hm : m ≤ 900000) (hl : bs.length ≤ 900000) (hfi : Fine (bs, m % 8)) (hs : SB W S bs m) :
    Calls Tryz.prog 103 #[.pointer (some ⟨S, 0, none⟩), .int .i64 n, .int .i64 k] W fun e w' => e = .returned (.tuple #[]) ∧ SB w' S (puts (bs, m % 8) (codeOf n k)).1 (m + k) ∧ Below S W w' := by
  go_enter Tryz.func103, Tryz.ntmps103
  go_wp2
  go_loopw [6] (fun i wr => ∃ j : Nat, j ≤ k ∧ i = .int .i64 ((k : Int) - 1 - (j : Int)) ∧ SB wr S (puts (bs, m % 8) ((codeOf n k).take j)).1 (m + j) ∧ Below S W wr) (fun i _ => (intOf i + 1).toNat)
  case atStart => exact ⟨0, Nat.zero_le _, by simp, hs, Below.refl _ _⟩
  case round =>
    obtain ⟨j, hj, rfl, hsj, hbj⟩ := hrel
    have HS : Hid (SB wr S (puts (bs, m % 8) ((codeOf n k).take j)).1 (m + j)) := hsj
    have HB : Hid (Below S W wr) := hbj
    clear hsj hbj
    by_cases hlt : j < k
    · have HC : Hid (Calls Tryz.prog 112 #[.pointer (some ⟨S, 0, none⟩), .int .i64 (((n / 2 ^ (k - 1 - j) : Nat) : Int) % 2)] wr fun e w' => e = .returned (.tuple #[]) ∧ SB w' S (puts (bs, m % 8) ((codeOf n k).take (j + 1))).1 (m + j + 1) ∧ Below S wr w') := by
        have hlen : ((codeOf n k).take j).length = j := by rw [List.length_take, codeOf_len]; omega
        have hu := puts_u bs m ((codeOf n k).take j)
        rw [hlen] at hu
        have e : puts (bs, m % 8) ((codeOf n k).take j) = ((puts (bs, m % 8) ((codeOf n k).take j)).1, (m + j) % 8) := by rw [← hu]
        have hpl := puts_len (bs, m % 8) ((codeOf n k).take j)
        rw [hlen] at hpl
        dsimp only at hpl
        have h := bit_any wr S (puts (bs, m % 8) ((codeOf n k).take j)).1 (m + j) (n / 2 ^ (k - 1 - j) % 2) (by omega) (by omega) (by omega) (by rw [← e]; exact fine_puts _ _ hfi (codeOf_bits n k j)) HS.out
        rw [← e, ← puts_snoc, ← codeOf_take n k j hlt] at h
        rw [show (((n / 2 ^ (k - 1 - j) : Nat) : Int) % 2) = ((n / 2 ^ (k - 1 - j) % 2 : Nat) : Int) by omega]
        exact h
      have hI : (k : Int) - 1 - (j : Int) = ((k - 1 - j : Nat) : Int) := by omega
      have hI2 : k - 1 - j ≤ 15 := by omega
      have hI3 : ((k - 1 - j : Nat) : Int) - 1 = (k : Int) - 1 - ((j + 1 : Nat) : Int) := by omega
      have HI3 : Hid _ := hI3
      have hd : ((n : Int) / 2 ^ (k - 1 - j)) = ((n / 2 ^ (k - 1 - j) : Nat) : Int) := by simp
      have hq : n / 2 ^ (k - 1 - j) ≤ n := Nat.div_le_self _ _
      have ha := and_one (n / 2 ^ (k - 1 - j)) (by omega)
      generalize n / 2 ^ (k - 1 - j) = d at *
      clear hI3
      generalize k - 1 - j = I at *
      rw [hI]
      clear hI
      go_wp2_with fail
      refine Calls.mono HC.out ?_
      rintro e w2 ⟨rfl, hs2, hb2⟩
      have HS2 : Hid (SB w2 S (puts (bs, m % 8) ((codeOf n k).take (j + 1))).1 (m + (j + 1))) := hs2
      have HB2 : Hid (Below S W w2) := HB.out.trans hb2
      clear hs2 hb2
      go_wp2
      go_roundw
      case rel => exact ⟨j + 1, by omega, by rw [HI3.out], HS2.out, HB2.out⟩
      case measure => simp [intOf]
    · have e : j = k := by omega
      subst e
      have hneg : decide ((0 : Int) ≤ (j : Int) - 1 - (j : Int)) = false := by simp; omega
      have HT : Hid ((codeOf n j).take j = codeOf n j) := by show _ = _; rw [List.take_of_length_le (by rw [codeOf_len]; exact Nat.le_refl _)]
      rw [HT.out] at HS
      generalize hE : (j : Int) - 1 - (j : Int) = E at *
      go_wp2
      go_returns
      exact ⟨rfl, HS.out, HB.out⟩

set_option maxHeartbeats 4000000 in
theorem putCode_any (W : World) (S : Nat) (s : List Nat × Nat) (n k : Nat) (hn : n < 65536) (hk : k ≤ 16) (hl : s.1.length ≤ 900000) (hfi : Fine s) (hs : Sink W S s.1 s.2) :
    Calls Tryz.prog 82 #[.iface 91 (.pointer (some ⟨S, 0, none⟩)), .int .i64 n, .int .i64 k] W fun e w' => e = .returned (.tuple #[]) ∧ Sink w' S (puts s (codeOf n k)).1 (puts s (codeOf n k)).2 ∧ Below S W w' := by
  go_enter Tryz.func82, Tryz.ntmps82
  go_wp2
  go_loopw [6] (fun i wr => ∃ j : Nat, j ≤ k ∧ i = .int .i64 ((k : Int) - 1 - (j : Int)) ∧ Sink wr S (puts s ((codeOf n k).take j)).1 (puts s ((codeOf n k).take j)).2 ∧ Below S W wr) (fun i _ => (intOf i + 1).toNat)
  case atStart => exact ⟨0, Nat.zero_le _, by simp, hs, Below.refl _ _⟩
  case round =>
    obtain ⟨j, hj, rfl, hsj, hbj⟩ := hrel
    have HS : Hid (Sink wr S (puts s ((codeOf n k).take j)).1 (puts s ((codeOf n k).take j)).2) := hsj
    have HB : Hid (Below S W wr) := hbj
    clear hsj hbj
    by_cases hlt : j < k
    · have HC : Hid (∀ W', Sink W' S (puts s ((codeOf n k).take j)).1 (puts s ((codeOf n k).take j)).2 → Calls Tryz.prog 134 #[.pointer (some ⟨S, 0, none⟩), .int .i64 (((n / 2 ^ (k - 1 - j) : Nat) : Int) % 2)] W' fun e w' => e = .returned (.tuple #[]) ∧ Sink w' S (puts s ((codeOf n k).take (j + 1))).1 (puts s ((codeOf n k).take (j + 1))).2 ∧ Below S W' w') := by
        intro W' h
        have hlen : ((codeOf n k).take j).length = j := by rw [List.length_take, codeOf_len]; omega
        have hpl := puts_len s ((codeOf n k).take j)
        rw [hlen] at hpl
        rw [codeOf_take n k j hlt, puts_snoc, show (((n / 2 ^ (k - 1 - j) : Nat) : Int) % 2) = ((n / 2 ^ (k - 1 - j) % 2 : Nat) : Int) by omega]
        exact putBit_any W' S _ _ (by omega) (by omega) (fine_puts _ _ hfi (codeOf_bits n k j)) h
      have hI : (k : Int) - 1 - (j : Int) = ((k - 1 - j : Nat) : Int) := by omega
      have hI2 : k - 1 - j ≤ 15 := by omega
      have hI3 : ((k - 1 - j : Nat) : Int) - 1 = (k : Int) - 1 - ((j + 1 : Nat) : Int) := by omega
      have HI3 : Hid _ := hI3
      have hd : ((n : Int) / 2 ^ (k - 1 - j)) = ((n / 2 ^ (k - 1 - j) : Nat) : Int) := by simp
      have hq : n / 2 ^ (k - 1 - j) ≤ n := Nat.div_le_self _ _
      have ha := and_one (n / 2 ^ (k - 1 - j)) (by omega)
      generalize n / 2 ^ (k - 1 - j) = d at *
      clear hI3
      generalize k - 1 - j = I at *
      rw [hI]
      clear hI
      have hnil := nil_put ⟨S, 0, none⟩
      go_wp2
      go_region_with (go_at_call 134
                      refine Calls.mono (HC.out _ ?_) ?_
                      · exact HS.out
                      rintro e w2 ⟨rfl, hs2, hb2⟩
                      have HS2 : Hid (Sink w2 S (puts s ((codeOf n k).take (j + 1))).1 (puts s ((codeOf n k).take (j + 1))).2) := hs2
                      have HB2 : Hid (Below S wr w2) := (Below.refl S wr).drew.trans hb2
                      clear hs2 hb2)
      go_wp2
      go_roundw
      case rel => exact ⟨j + 1, by omega, by rw [HI3.out], HS2.out, HB.out.trans HB2.out⟩
      case measure => simp [intOf]
    · have e : j = k := by omega
      subst e
      have hneg : decide ((0 : Int) ≤ (j : Int) - 1 - (j : Int)) = false := by simp; omega
      have HT : Hid ((codeOf n j).take j = codeOf n j) := by show _ = _; rw [List.take_of_length_le (by rw [codeOf_len]; exact Nat.le_refl _)]
      rw [HT.out] at HS
      generalize hE : (j : Int) - 1 - (j : Int) = E at *
      go_wp2
      go_returns
      exact ⟨rfl, HS.out, HB.out⟩

set_option maxHeartbeats 1000000 in
theorem putHead1 (W : World) (S : Nat) (hs : Sink W S [] 0) :
    Calls Tryz.prog 77 #[.iface 91 (.pointer (some ⟨S, 0, none⟩)), .int .i64 1] W fun e w' => e = .returned (.tuple #[]) ∧ Sink w' S (puts ([], 0) (bitsOf 3 3)).1 (puts ([], 0) (bitsOf 3 3)).2 ∧ Below S W w' := by
  have f0 : Fine ([], 0) := ⟨by decide, by simp, fun h => absurd rfl h⟩
  have HC1 : Hid (∀ W', Sink W' S [] 0 → Calls Tryz.prog 78 #[.iface 91 (.pointer (some ⟨S, 0, none⟩)), .int .i64 1, .int .i64 1] W' fun e w' => e = .returned (.tuple #[]) ∧ Sink w' S (puts ([], 0) (bitsOf 1 1)).1 (puts ([], 0) (bitsOf 1 1)).2 ∧ Below S W' w') :=
    fun W' h => putNumber_any W' S ([], 0) 1 1 (by omega) (by omega) (by simp) f0 h
  have HC2 : Hid (∀ W', Sink W' S (puts ([], 0) (bitsOf 1 1)).1 (puts ([], 0) (bitsOf 1 1)).2 → Calls Tryz.prog 78 #[.iface 91 (.pointer (some ⟨S, 0, none⟩)), .int .i64 1, .int .i64 2] W' fun e w' => e = .returned (.tuple #[]) ∧ Sink w' S (puts ([], 0) (bitsOf 3 3)).1 (puts ([], 0) (bitsOf 3 3)).2 ∧ Below S W' w') :=
    fun W' h => putNumber_any W' S (puts ([], 0) (bitsOf 1 1)) 1 2 (by omega) (by omega) (by decide) (puts_fine _ _ _ f0) h
  have HS : Hid (Sink W S [] 0) := hs
  clear hs f0
  generalize puts ([], 0) (bitsOf 3 3) = s2 at *
  generalize puts ([], 0) (bitsOf 1 1) = s1 at *
  go_enter Tryz.func77, Tryz.ntmps77
  go_wp2_with fail
  refine Calls.mono (HC1.out _ HS.out) ?_
  rintro e w1 ⟨rfl, h1, h2⟩
  have HS1 : Hid (Sink w1 S s1.1 s1.2) := h1
  have HB1 : Hid (Below S W w1) := h2
  clear h1 h2
  go_wp2_with fail
  refine Calls.mono (HC2.out _ HS1.out) ?_
  rintro e w2 ⟨rfl, h1, h2⟩
  have HS2 : Hid (Sink w2 S s2.1 s2.2) := h1
  have HB2 : Hid (Below S W w2) := HB1.out.trans h2
  clear h1 h2
  go_wp2
  go_returns
  exact ⟨rfl, HS2.out, HB2.out⟩
end Go.Proofs.YtaeicgfebeliiaaGreatDoor
namespace Go.Proofs.YtaeicgfebeliiaaGreatDoor
open Go.ChangeShapes Go.WideShapes Go.ChangeAt Go.RowKit
set_option linter.unusedVariables false

def LBl : List Nat := [3, 4, 5, 6, 7, 8, 9, 10, 11, 13, 15, 17, 19, 23, 27, 31, 35, 43, 51, 59, 67, 83, 99, 115, 131, 163, 195, 227, 258]
def LEl : List Nat := [0, 0, 0, 0, 0, 0, 0, 0, 1, 1, 1, 1, 2, 2, 2, 2, 3, 3, 3, 3, 4, 4, 4, 4, 5, 5, 5, 5, 0]
def DBl : List Nat := [1, 2, 3, 4, 5, 7, 9, 13, 17, 25, 33, 49, 65, 97, 129, 193, 257, 385, 513, 769, 1025, 1537, 2049, 3073, 4097, 6145, 8193, 12289, 16385, 24577]
def DEl : List Nat := [0, 0, 0, 0, 1, 1, 2, 2, 3, 3, 4, 4, 5, 5, 6, 6, 7, 7, 8, 8, 9, 9, 10, 10, 11, 11, 12, 12, 13, 13]
def LB (k : Nat) : Nat := LBl.getD k 0
def LE (k : Nat) : Nat := LEl.getD k 0
def DB (k : Nat) : Nat := DBl.getD k 0
def DE (k : Nat) : Nat := DEl.getD k 0
theorem LB_mono (i j : Nat) (h : i < j) (hj : j < 29) : LB i < LB j := by
  have : ∀ j : Fin 29, ∀ i : Fin 29, i.val < j.val → LB i.val < LB j.val := by decide
  exact this ⟨j, hj⟩ ⟨i, by omega⟩ h
theorem DB_mono (i j : Nat) (h : i < j) (hj : j < 30) : DB i < DB j := by
  have : ∀ j : Fin 30, ∀ i : Fin 30, i.val < j.val → DB i.val < DB j.val := by decide
  exact this ⟨j, hj⟩ ⟨i, by omega⟩ h
theorem LB_bd (k : Nat) (h : k < 29) : 3 ≤ LB k ∧ LB k ≤ 258 ∧ LE k ≤ 5 := by
  have : ∀ j : Fin 29, 3 ≤ LB j.val ∧ LB j.val ≤ 258 ∧ LE j.val ≤ 5 := by decide
  exact this ⟨k, h⟩
theorem DB_bd (k : Nat) (h : k < 30) : 1 ≤ DB k ∧ DB k ≤ 24577 ∧ DE k ≤ 13 := by
  have : ∀ j : Fin 30, 1 ≤ DB j.val ∧ DB j.val ≤ 24577 ∧ DE j.val ≤ 13 := by decide
  exact this ⟨k, h⟩
/-- The last place, from k down, whose number is not above n. -/
def dn (f : Nat → Nat) (n : Nat) : Nat → Nat
  | 0 => 0
  | k + 1 => if f (k + 1) ≤ n then k + 1 else dn f n k
theorem dn_le (f : Nat → Nat) (n M : Nat) : dn f n M ≤ M := by
  induction M with
  | zero => exact Nat.le_refl _
  | succ M ih => unfold dn; split <;> omega
theorem dn_fit (f : Nat → Nat) (n M : Nat) (h0 : f 0 ≤ n) : f (dn f n M) ≤ n := by
  induction M with
  | zero => exact h0
  | succ M ih => unfold dn; split
                 · assumption
                 · exact ih
theorem dn_eq (f : Nat → Nat) (n k M : Nat) (hk : k ≤ M) (h1 : ∀ j, k < j → j ≤ M → n < f j) (h2 : k = 0 ∨ f k ≤ n) : dn f n M = k := by
  induction M with
  | zero => show 0 = k; omega
  | succ M ih =>
    unfold dn
    by_cases e : k = M + 1
    · subst e
      rcases h2 with h2 | h2
      · omega
      · rw [if_pos h2]
    · rw [if_neg (by have := h1 (M + 1) (by omega) (Nat.le_refl _); omega)]
      exact ih (by omega) (fun j hj hj2 => h1 j hj (by omega))
def lp (n : Nat) : Nat := dn LB n 28
def dp (n : Nat) : Nat := dn DB n 29
/-- The four tables lie in their blocks. -/
def Tabs (w : World) : Prop :=
  (∀ i, i < 29 → w.cell? ⟨0, i, none⟩ = some (.int .i64 (LB i : Int))) ∧ (∀ i, i < 29 → w.cell? ⟨1, i, none⟩ = some (.int .i64 (LE i : Int))) ∧
  (∀ i, i < 30 → w.cell? ⟨2, i, none⟩ = some (.int .i64 (DB i : Int))) ∧ (∀ i, i < 30 → w.cell? ⟨3, i, none⟩ = some (.int .i64 (DE i : Int))) ∧ 4 ≤ w.heap.size
theorem Tabs.below {w w' : World} {B : Nat} (h : Tabs w) (k : Below B w w') (hB : 4 ≤ B) : Tabs w' := by
  obtain ⟨a, b, c, d, e⟩ := h
  exact ⟨fun i hi => (k.cell (p := ⟨0, i, none⟩) (by show 0 < B; omega)).trans (a i hi), fun i hi => (k.cell (p := ⟨1, i, none⟩) (by show 1 < B; omega)).trans (b i hi), fun i hi => (k.cell (p := ⟨2, i, none⟩) (by show 2 < B; omega)).trans (c i hi), fun i hi => (k.cell (p := ⟨3, i, none⟩) (by show 3 < B; omega)).trans (d i hi), Nat.le_trans e k.size⟩

set_option maxHeartbeats 1000000 in
theorem lengthPlace_any (n : Nat) (w : World) (ht : Tabs w) (hn : LB 0 ≤ n) (hn2 : n ≤ 100000) : Calls Tryz.prog 83 #[.int .i64 n] w fun e w' => e = .returned (.int .i64 (lp n : Int)) ∧ w' = w := by
  have HT : Hid (∀ i, i < 29 → w.cell? ⟨0, i, none⟩ = some (.int .i64 (LB i : Int))) := ht.1
  clear ht
  go_enter Tryz.func83, Tryz.ntmps83
  go_wp2
  go_loop [3] (fun i => ∃ k : Nat, k ≤ 28 ∧ i = .int .i64 k ∧ LB k ≤ n) (fun i => 28 - (intOf i).toNat)
  case atStart => exact ⟨0, Nat.zero_le _, rfl, hn⟩
  case round =>
    obtain ⟨k, hk, rfl, hf⟩ := hrel
    by_cases hlt : k < 28
    · have c0 := HT.out (k + 1) (by omega)
      have g1 : decide ((k : Int) + 1 < 29) = true := by simp; omega
      have x1 : (k : Int) + 1 < 29 := by omega
      have bb := LB_bd (k + 1) (by omega)
      by_cases hle : LB (k + 1) ≤ n
      · have HF : Hid (LB (k + 1) ≤ n) := hle
        generalize hv : LB (k + 1) = v at *
        have HV : Hid (LB (k + 1) = v) := hv
        clear hv
        have d2 : decide ((v : Int) ≤ (n : Int)) = true := by simp; omega
        have d3 : decide (v ≤ n) = true := by simp; omega
        go_wp2
        go_round
        case rel => exact ⟨k + 1, by omega, by go_num, by rw [HV.out]; exact HF.out⟩
        case measure => simp [intOf]; omega
      · have HE : Hid (lp n = k) := by
          refine dn_eq LB n k 28 hk (fun j h1 h2 => ?_) (Or.inr hf)
          by_cases e : j = k + 1
          · subst e; omega
          · have := LB_mono (k + 1) j (by omega) (by omega); omega
        generalize LB (k + 1) = v at *
        have d2 : decide ((v : Int) ≤ (n : Int)) = false := by simp; omega
        have d3 : decide (v ≤ n) = false := by simp; omega
        go_wp2
        go_ret
        exact ⟨by rw [HE.out]; rfl, rfl⟩
    · have e : k = 28 := by omega
      subst e
      have HE : Hid (lp n = 28) := dn_eq LB n 28 28 (Nat.le_refl _) (fun j h1 h2 => by omega) (Or.inr hf)
      clear hf hlt
      go_wp2
      go_ret
      exact ⟨by rw [HE.out]; rfl, rfl⟩
set_option maxHeartbeats 1000000 in
theorem distancePlace_any (n : Nat) (w : World) (ht : Tabs w) (hn : DB 0 ≤ n) (hn2 : n ≤ 100000) : Calls Tryz.prog 98 #[.int .i64 n] w fun e w' => e = .returned (.int .i64 (dp n : Int)) ∧ w' = w := by
  have HT : Hid (∀ i, i < 30 → w.cell? ⟨2, i, none⟩ = some (.int .i64 (DB i : Int))) := ht.2.2.1
  clear ht
  go_enter Tryz.func98, Tryz.ntmps98
  go_wp2
  go_loop [3] (fun i => ∃ k : Nat, k ≤ 29 ∧ i = .int .i64 k ∧ DB k ≤ n) (fun i => 29 - (intOf i).toNat)
  case atStart => exact ⟨0, Nat.zero_le _, rfl, hn⟩
  case round =>
    obtain ⟨k, hk, rfl, hf⟩ := hrel
    by_cases hlt : k < 29
    · have c0 := HT.out (k + 1) (by omega)
      have g1 : decide ((k : Int) + 1 < 30) = true := by simp; omega
      have x1 : (k : Int) + 1 < 30 := by omega
      have bb := DB_bd (k + 1) (by omega)
      by_cases hle : DB (k + 1) ≤ n
      · have HF : Hid (DB (k + 1) ≤ n) := hle
        generalize hv : DB (k + 1) = v at *
        have HV : Hid (DB (k + 1) = v) := hv
        clear hv
        have d2 : decide ((v : Int) ≤ (n : Int)) = true := by simp; omega
        have d3 : decide (v ≤ n) = true := by simp; omega
        go_wp2
        go_round
        case rel => exact ⟨k + 1, by omega, by go_num, by rw [HV.out]; exact HF.out⟩
        case measure => simp [intOf]; omega
      · have HE : Hid (dp n = k) := by
          refine dn_eq DB n k 29 hk (fun j h1 h2 => ?_) (Or.inr hf)
          by_cases e : j = k + 1
          · subst e; omega
          · have := DB_mono (k + 1) j (by omega) (by omega); omega
        generalize DB (k + 1) = v at *
        have d2 : decide ((v : Int) ≤ (n : Int)) = false := by simp; omega
        have d3 : decide (v ≤ n) = false := by simp; omega
        go_wp2
        go_ret
        exact ⟨by rw [HE.out]; rfl, rfl⟩
    · have e : k = 29 := by omega
      subst e
      have HE : Hid (dp n = 29) := dn_eq DB n 29 29 (Nat.le_refl _) (fun j h1 h2 => by omega) (Or.inr hf)
      clear hf hlt
      go_wp2
      go_ret
      exact ⟨by rw [HE.out]; rfl, rfl⟩

set_option maxHeartbeats 1000000 in
theorem base_any (k : Nat) (w : World) (hk : k ≤ 28) : Calls Tryz.prog 104 #[.int .i64 k] w fun e w' => e = .returned (.tuple #[.int .i64 (LB k : Int), .int .i64 (LE k : Int)]) ∧ w' = w := by
  by_cases h28 : k = 28
  · subst h28
    go_enter Tryz.func104, Tryz.ntmps104
    go_wp2
    go_ret2
    exact ⟨rfl, rfl⟩
  · have z : ((k : Int) == 28) = false := by rw [beq_eq_false_iff_ne]; omega
    by_cases h8 : k < 8
    · have e : ∀ j : Fin 8, LB j.val = 3 + j.val ∧ LE j.val = 0 := by decide
      obtain ⟨e1, e2⟩ := e ⟨k, h8⟩
      dsimp only at e1 e2
      rw [e1, e2]
      have d8 : decide ((k : Int) < 8) = true := by simp; omega
      go_enter Tryz.func104, Tryz.ntmps104
      go_wp2
      go_ret2
      exact ⟨rfl, rfl⟩
    · have e : ∀ j : Fin 28, 8 ≤ j.val → LB j.val = 3 + (4 + j.val % 4) * 2 ^ (j.val / 4 - 1) ∧ LE j.val = j.val / 4 - 1 := by decide
      obtain ⟨e1, e2⟩ := e ⟨k, by omega⟩ (by show 8 ≤ k; omega)
      dsimp only at e1 e2
      have d8 : decide ((k : Int) < 8) = false := by simp; omega
      have b := LB_bd k (by omega)
      have h1 : (k : Int) / 4 - 1 = ((LE k : Nat) : Int) := by rw [e2]; omega
      have h2 : (4 : Int) + (k : Int) % 4 = ((4 + k % 4 : Nat) : Int) := by omega
      rw [← e2] at e1
      have h3 : ((4 + k % 4 : Nat) : Int) * 2 ^ (LE k) = ((LB k : Nat) : Int) - 3 := by
        have : (4 + k % 4) * 2 ^ (LE k) = LB k - 3 := by omega
        rw [show (((4 + k % 4 : Nat) : Int) * 2 ^ (LE k)) = (((4 + k % 4) * 2 ^ (LE k) : Nat) : Int) by simp, this]; omega
      have hw := IntWalk.i64_in (((LB k : Nat) : Int) - 3) (by omega)
      have h4 : (3 : Int) + (((LB k : Nat) : Int) - 3) = ((LB k : Nat) : Int) := by omega
      clear e1 e2
      generalize LB k = B at *
      generalize LE k = E at *
      generalize 4 + k % 4 = F at *
      go_enter Tryz.func104, Tryz.ntmps104
      go_wp2
      go_ret2
      exact ⟨rfl, rfl⟩

set_option maxHeartbeats 1000000 in
theorem back_any (k : Nat) (w : World) (hk : k ≤ 29) : Calls Tryz.prog 105 #[.int .i64 k] w fun e w' => e = .returned (.tuple #[.int .i64 (DB k : Int), .int .i64 (DE k : Int)]) ∧ w' = w := by
  by_cases h8 : k < 4
  · have e : ∀ j : Fin 4, DB j.val = 1 + j.val ∧ DE j.val = 0 := by decide
    obtain ⟨e1, e2⟩ := e ⟨k, h8⟩
    dsimp only at e1 e2
    rw [e1, e2]
    have d8 : decide ((k : Int) < 4) = true := by simp; omega
    go_enter Tryz.func105, Tryz.ntmps105
    go_wp2
    go_ret2
    exact ⟨rfl, rfl⟩
  · have e : ∀ j : Fin 30, 4 ≤ j.val → DB j.val = 1 + (2 + j.val % 2) * 2 ^ (j.val / 2 - 1) ∧ DE j.val = j.val / 2 - 1 := by decide
    obtain ⟨e1, e2⟩ := e ⟨k, by omega⟩ (by show 4 ≤ k; omega)
    dsimp only at e1 e2
    have d8 : decide ((k : Int) < 4) = false := by simp; omega
    have b := DB_bd k (by omega)
    have h1 : (k : Int) / 2 - 1 = ((DE k : Nat) : Int) := by rw [e2]; omega
    have h2 : (2 : Int) + (k : Int) % 2 = ((2 + k % 2 : Nat) : Int) := by omega
    rw [← e2] at e1
    have h3 : ((2 + k % 2 : Nat) : Int) * 2 ^ (DE k) = ((DB k : Nat) : Int) - 1 := by
      have : (2 + k % 2) * 2 ^ (DE k) = DB k - 1 := by omega
      rw [show (((2 + k % 2 : Nat) : Int) * 2 ^ (DE k)) = (((2 + k % 2) * 2 ^ (DE k) : Nat) : Int) by simp, this]; omega
    have hw := IntWalk.i64_in (((DB k : Nat) : Int) - 1) (by omega)
    have h4 : (1 : Int) + (((DB k : Nat) : Int) - 1) = ((DB k : Nat) : Int) := by omega
    clear e1 e2
    generalize DB k = B at *
    generalize DE k = E at *
    generalize 2 + k % 2 = F at *
    go_enter Tryz.func105, Tryz.ntmps105
    go_wp2
    go_ret2
    exact ⟨rfl, rfl⟩

/-- The lengths of the fixed codes. -/
def fl (k : Nat) : Int := if k < 144 then 8 else if k < 256 then 9 else if k < 280 then 7 else 8
def fixedL : List Int := (List.range 288).map fl
theorem fixedL_len : fixedL.length = 288 := by simp [fixedL]
theorem fixedL_get (k : Nat) (h : k < 288) : fixedL.getD k 0 = fl k := by simp [fixedL, h]
end Go.Proofs.YtaeicgfebeliiaaGreatDoor
namespace Go.Proofs.YtaeicgfebeliiaaGreatDoor
open Go.ChangeShapes Go.WideShapes Go.ChangeAt Go.RowKit
set_option linter.unusedVariables false

/-- n cells, by their places. -/
def tab (n : Nat) (F : Nat → Int) : Array Value := ((List.range n).map (fun j => Value.int .i64 (F j))).toArray
theorem tab_size (n : Nat) (F : Nat → Int) : (tab n F).size = n := by simp [tab]
theorem tab_get (n : Nat) (F : Nat → Int) (i : Nat) (h : i < n) : (tab n F)[i]? = some (.int .i64 (F i)) := by
  simp [tab, h]
theorem tab_none (n : Nat) (F : Nat → Int) (i : Nat) (h : ¬ i < n) : (tab n F)[i]? = none := by
  simp [tab]; omega
theorem tab_congr (n : Nat) (F G : Nat → Int) (h : ∀ j, j < n → F j = G j) : tab n F = tab n G := by
  unfold tab
  congr 1
  apply List.map_congr_left
  intro j hj
  rw [h j (by simpa using hj)]
theorem tab_set (n : Nat) (F G : Nat → Int) (i : Nat) (v : Int) (hi : i < n) (h : ∀ j, j < n → j ≠ i → F j = G j) (hv : G i = v) : (tab n F).setIfInBounds i (.int .i64 v) = tab n G := by
  apply Array.ext_getElem?
  intro k
  rw [Array.getElem?_setIfInBounds]
  by_cases hk : k < n
  · rw [tab_get n G k hk]
    by_cases e : i = k
    · subst e; simp [tab_size, hi, hv]
    · rw [if_neg e, tab_get n F k hk, h k hk (fun x => e x.symm)]
  · rw [tab_none n G k hk]
    by_cases e : i = k
    · exact absurd hi (e ▸ hk)
    · rw [if_neg e, tab_none n F k hk]
theorem tab_zero (n : Nat) : madeCells #[Value.int .i64 0] n = tab n (fun _ => 0) := by
  unfold tab madeCells
  apply Array.ext_getElem?
  intro i
  by_cases h : i < n <;> simp [Nat.mod_one, h]
theorem tab16 (F : Nat → Int) : tab 16 F = #[.int .i64 (F 0), .int .i64 (F 1), .int .i64 (F 2), .int .i64 (F 3), .int .i64 (F 4), .int .i64 (F 5), .int .i64 (F 6), .int .i64 (F 7), .int .i64 (F 8), .int .i64 (F 9), .int .i64 (F 10), .int .i64 (F 11), .int .i64 (F 12), .int .i64 (F 13), .int .i64 (F 14), .int .i64 (F 15)] := rfl
theorem cellsOf_tab (zs : List Int) : cellsOf .i64 zs = tab zs.length (fun j => zs.getD j 0) := by
  apply Array.ext_getElem?
  intro i
  by_cases h : i < zs.length
  · rw [tab_get _ _ _ h, cellsOf_get _ _ _ h]
  · rw [tab_none _ _ _ h]; simp [cellsOf]; omega

/-- How often the length l stands among the first i (what has no code is not counted). -/
def cn (xs : List Int) (i : Nat) (l : Nat) : Int := if l = 0 then 0 else ((xs.take i).count (l : Int) : Int)
theorem cn_zero (xs : List Int) (l : Nat) : cn xs 0 l = 0 := by unfold cn; split <;> simp
theorem take_succ_getD (xs : List Int) (i : Nat) (h : i < xs.length) : xs.take (i + 1) = xs.take i ++ [xs.getD i 0] := by
  rw [List.take_succ_eq_append_getElem h]; simp [h]
theorem cn_succ (xs : List Int) (i l : Nat) (h : i < xs.length) : cn xs (i + 1) l = cn xs i l + if l ≠ 0 ∧ xs.getD i 0 = l then 1 else 0 := by
  unfold cn
  by_cases hl : l = 0
  · simp [hl]
  · rw [if_neg hl, if_neg hl, take_succ_getD xs i h, List.count_append]
    by_cases e : xs.getD i 0 = (l : Int)
    · rw [if_pos ⟨hl, e⟩, e]; simp
    · rw [if_neg (fun x => e x.2)]
      have : List.count (l : Int) [xs.getD i 0] = 0 := by rw [List.count_eq_zero]; simp; exact fun x => e (by simpa using x.symm)
      rw [this]; simp
theorem cn_bd (xs : List Int) (i l : Nat) : 0 ≤ cn xs i l ∧ cn xs i l ≤ i := by
  unfold cn
  split
  · omega
  · have := List.count_le_length (a := (l : Int)) (l := xs.take i)
    have h2 : (xs.take i).length ≤ i := by simp; omega
    omega
/-- The first code of each length. -/
def nx (xs : List Int) : Nat → Int
  | 0 => 0
  | l + 1 => (nx xs l + cn xs xs.length l) * 2
theorem nx_bd (xs : List Int) (h : xs.length ≤ 300) (l : Nat) : l ≤ 15 → 0 ≤ nx xs l ∧ nx xs l + 600 ≤ 600 * 2 ^ l := by
  induction l with
  | zero => intro _; exact ⟨Int.le_refl _, by show (0 : Int) + 600 ≤ 600 * 2 ^ 0; simp⟩
  | succ l ih =>
    intro hl
    have a := ih (by omega)
    have b := cn_bd xs xs.length l
    have e : (2 : Int) ^ (l + 1) = 2 ^ l * 2 := Int.pow_succ 2 l
    show 0 ≤ (nx xs l + cn xs xs.length l) * 2 ∧ (nx xs l + cn xs xs.length l) * 2 + 600 ≤ _
    rw [e]
    omega
/-- The code at a place. -/
def cd (xs : List Int) (i : Nat) : Int := if 0 < xs.getD i 0 then nx xs (xs.getD i 0).toNat + cn xs i (xs.getD i 0).toNat else 0
def codesL (xs : List Int) : List Int := (List.range xs.length).map (cd xs)
theorem codesL_len (xs : List Int) : (codesL xs).length = xs.length := by simp [codesL]
theorem codesL_cells (xs : List Int) : tab xs.length (cd xs) = cellsOf .i64 (codesL xs) := by
  rw [cellsOf_tab, codesL_len]
  apply tab_congr
  intro j hj
  simp [codesL, hj]
/-- All lengths are in 0..15. -/
def fit (xs : List Int) : Bool := decide (xs.length ≤ 300) && xs.all (fun x => decide (0 ≤ x) && decide (x ≤ 15))
theorem fit_len {xs : List Int} (h : fit xs = true) : xs.length ≤ 300 := by simp [fit] at h; exact h.1
theorem fit_at {xs : List Int} (h : fit xs = true) (i : Nat) : 0 ≤ xs.getD i 0 ∧ xs.getD i 0 ≤ 15 := by
  by_cases hi : i < xs.length
  · simp [fit] at h
    have := h.2 xs[i] (List.getElem_mem _)
    simp [hi]; exact this
  · rw [List.getD_eq_getElem?_getD, List.getElem?_eq_none (by omega)]; simp
theorem fit_no {xs : List Int} (hl : xs.length ≤ 300) (i : Nat) (hi : i < xs.length) (h : ¬ (0 ≤ xs.getD i 0 ∧ xs.getD i 0 ≤ 15)) : fit xs = false := by
  rw [Bool.eq_false_iff]; intro hf; exact h (fit_at hf i)
/-- The sum that tells whether a row is complete: over the first i. -/
def kr (xs : List Int) : Nat → Int
  | 0 => 0
  | i + 1 => kr xs i + if 0 < xs.getD i 0 then 2 ^ (15 - (xs.getD i 0).toNat) else 0
/-- The same by lengths. -/
def ks (xs : List Int) (i : Nat) : Nat → Int
  | 0 => 0
  | l + 1 => ks xs i l + cn xs i l * 2 ^ (15 - l)
theorem ks_zero (xs : List Int) (l : Nat) : ks xs 0 l = 0 := by
  induction l with
  | zero => rfl
  | succ l ih => show ks xs 0 l + cn xs 0 l * 2 ^ (15 - l) = 0; rw [ih, cn_zero]; simp
theorem ks_step (xs : List Int) (i : Nat) (hi : i < xs.length) (h0 : 0 ≤ xs.getD i 0) (l : Nat) :
    ks xs (i + 1) l = ks xs i l + if 0 < xs.getD i 0 ∧ (xs.getD i 0).toNat < l then 2 ^ (15 - (xs.getD i 0).toNat) else 0 := by
  induction l with
  | zero => show (0 : Int) = 0 + _; rw [if_neg (by omega)]; rfl
  | succ l ih =>
    show ks xs (i + 1) l + cn xs (i + 1) l * 2 ^ (15 - l) = ks xs i l + cn xs i l * 2 ^ (15 - l) + _
    rw [ih, cn_succ xs i l hi, Int.add_mul]
    by_cases h : 0 < xs.getD i 0
    · by_cases e : (xs.getD i 0).toNat = l
      · have e' : xs.getD i 0 = (l : Int) := by omega
        rw [if_neg (by omega), if_pos ⟨by omega, e'⟩, if_pos ⟨h, by omega⟩, e]; simp [Int.add_assoc]
      · have e' : ¬ (l ≠ 0 ∧ xs.getD i 0 = (l : Int)) := by omega
        rw [if_neg e']
        by_cases h2 : (xs.getD i 0).toNat < l
        · rw [if_pos ⟨h, h2⟩, if_pos ⟨h, by omega⟩]; simp; omega
        · rw [if_neg (by omega), if_neg (by omega)]; simp
    · rw [if_neg (by omega), if_neg (by omega), if_neg (by omega)]; simp
theorem ks_kr (xs : List Int) (hf : fit xs = true) (i : Nat) : i ≤ xs.length → ks xs i 16 = kr xs i := by
  induction i with
  | zero => intro _; rw [ks_zero]; rfl
  | succ i ih =>
    intro hi
    have b := fit_at hf i
    rw [ks_step xs i (by omega) b.1, ih (by omega)]
    show _ = kr xs i + _
    by_cases h : 0 < xs.getD i 0
    · rw [if_pos ⟨h, by omega⟩, if_pos h]
    · rw [if_neg (by omega), if_neg h]
theorem pow_bd (k : Nat) (h : k ≤ 15) : (1 : Int) ≤ 2 ^ k ∧ (2 : Int) ^ k ≤ 32768 := by
  have : ∀ i : Fin 16, (1 : Int) ≤ 2 ^ i.val ∧ (2 : Int) ^ i.val ≤ 32768 := by decide
  exact this ⟨k, by omega⟩
theorem kr_bd (xs : List Int) (i : Nat) : 0 ≤ kr xs i ∧ kr xs i ≤ 32768 * i := by
  induction i with
  | zero => exact ⟨Int.le_refl _, by show (0 : Int) ≤ _; omega⟩
  | succ i ih =>
    have := pow_bd (15 - (xs.getD i 0).toNat) (by omega)
    show 0 ≤ kr xs i + _ ∧ kr xs i + _ ≤ _
    split <;> omega
theorem ks_bd (xs : List Int) (i l : Nat) (hi : i ≤ 300) : 0 ≤ ks xs i l ∧ ks xs i l ≤ 300 * 32768 * l := by
  induction l with
  | zero => exact ⟨Int.le_refl _, by show (0 : Int) ≤ _; omega⟩
  | succ l ih =>
    have a := pow_bd (15 - l) (by omega)
    have b := cn_bd xs i l
    have m := Int.mul_nonneg b.1 (show (0 : Int) ≤ 2 ^ (15 - l) by omega)
    have m2 := Int.mul_le_mul (show cn xs i l ≤ 300 by omega) a.2 (by omega) (by omega)
    show 0 ≤ ks xs i l + _ ∧ ks xs i l + _ ≤ _
    omega
/-- The codes, where there are any. -/
def full (xs : List Int) : Bool := decide (kr xs xs.length = 32768)
end Go.Proofs.YtaeicgfebeliiaaGreatDoor
