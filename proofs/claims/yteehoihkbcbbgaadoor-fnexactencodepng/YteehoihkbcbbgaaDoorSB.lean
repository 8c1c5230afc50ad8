/-
  What the specification's bits that are laid down (l2Bits) do with one bit; each theorem names its conditions.
-/
import Derived.Test.YteehoihkbcbbgaaDoorPut
namespace Go.Proofs.YteehoihkbcbbgaaDoor
open Go.ChangeShapes Go.WideShapes Go.ChangeAt Go.RowKit
set_option linter.unusedVariables false

/-- The bits in the block S: the bytes bs, and how many bits there are. -/
def SB (w : World) (S : Nat) (bs : List Nat) (m : Nat) : Prop :=
  ∃ v, w.cell? ⟨S, 0, none⟩ = some v ∧ w.cell? ⟨S, 1, none⟩ = some (.int .i64 m) ∧ (∀ o, w.frozen? ⟨S, o, none⟩ = false) ∧ S < w.heap.size ∧ w.ownsRow (S + 1) 5 1 v bs.length (bc bs)

theorem sb_put (W : World) (S g cap : Nat) (bs : List Nat) (a V u : Nat)
    (h0 : W.cell? ⟨S, 0, none⟩ = some (.slice (some ⟨g, 0, none⟩) (bs.length + 1) cap)) (h1 : ∃ z, W.cell? ⟨S, 1, none⟩ = some z) (hf : ∀ o, W.frozen? ⟨S, o, none⟩ = false)
    (hown : W.ownsRow (S + 1) 5 1 (.slice (some ⟨g, 0, none⟩) (bs.length + 1) cap) (bs.length + 1) (bc (bs ++ [a]))) :
    SB ((W.setCell ⟨g, bs.length, none⟩ (.int .u8 (V : Int))).setCell ⟨S, 1, none⟩ (.int .i64 (u : Int))) S (bs ++ [V]) u ∧ Below S W ((W.setCell ⟨g, bs.length, none⟩ (.int .u8 (V : Int))).setCell ⟨S, 1, none⟩ (.int .i64 (u : Int))) := by
  obtain ⟨z, h1⟩ := h1
  have hg := hown.lt g rfl
  have hS : S < W.heap.size := World.block_lt_of_cell? _ _ h0
  obtain ⟨s1, s2⟩ := hown.stored bs.length (.int .u8 (V : Int))
  refine ⟨⟨.slice (some ⟨g, 0, none⟩) (bs.length + 1) cap, ?_, ?_, ?_, by simpa [World.setCell] using hS, ?_⟩, ?_⟩
  · rw [World.cell?_setCell_other _ _ _ _ (fun h => by injection h; omega), World.cell?_setCell_other _ _ _ _ (fun h => by injection h; omega)]; exact h0
  · apply World.cell?_setCell_same (u := z)
    rw [World.cell?_setCell_other _ _ _ _ (fun h => by injection h; omega)]; exact h1
  · intro o; rw [World.frozen?_setCell, World.frozen?_setCell]; exact hf o
  · have e : (bc (bs ++ [a])).set bs.length (.int .u8 (V : Int)) = bc (bs ++ [V]) := by
      simp [bc]
    rw [e] at s1
    have := own_other s1 S 1 (.int .i64 (u : Int)) (by omega)
    simpa using this
  · exact ((Below.refl S W).setCell (show S ≤ (Addr.mk g bs.length none).block by show S ≤ g; omega) _).setCell (show S ≤ (Addr.mk S 1 none).block from Nat.le_refl S) _

set_option maxHeartbeats 2000000 in
theorem bit_more (W : World) (S : Nat) (cs : List Nat) (a x u : Nat) (ha : a < 2 ^ u) (hx : x ≤ 1) (m0 : Nat) (hmu : m0 % 8 = u) (hm0 : m0 ≤ 1000000) (hu0 : u ≠ 0) (hl : cs.length ≤ 1000000) (hs : SB W S (cs ++ [a]) m0) :
    Calls Tryd.prog 119 #[.pointer (some ⟨S, 0, none⟩), .int .i64 x] W fun e w' => e = .returned (.tuple #[]) ∧ SB w' S (stp (cs ++ [a], u) x).1 (m0 + 1) ∧ Below S W w' := by
  rw [stp_more cs a u x hu0]
  obtain ⟨v, h0, h1, hf, hS, hown⟩ := hs
  have hn : (cs ++ [a]).length = cs.length + 1 := by simp
  rw [hn] at hown
  have hform := hown.2
  rcases hform with ⟨_, h⟩ | ⟨g, cap, cur, rfl, hg1, hg2, hg3, hg4, hg5, hg6⟩
  · omega
  have HP : Hid (∀ V : Nat, SB ((W.setCell ⟨g, cs.length, none⟩ (.int .u8 (V : Int))).setCell ⟨S, 1, none⟩ (.int .i64 ((m0 + 1 : Nat) : Int))) S (cs ++ [V]) (m0 + 1) ∧ Below S W ((W.setCell ⟨g, cs.length, none⟩ (.int .u8 (V : Int))).setCell ⟨S, 1, none⟩ (.int .i64 ((m0 + 1 : Nat) : Int)))) :=
    fun V => sb_put W S g cap cs a V _ h0 ⟨_, h1⟩ hf hown
  have hcell : W.cell? ⟨g, cs.length, none⟩ = some (.int .u8 (a : Int)) := by
    rw [hown.cellAt cs.length (by omega)]; simp [bc]
  have fg := hown.frozenAt cs.length
  have fS := hf 1
  have hu : u < 8 := by omega
  have hmu' : (m0 : Int) % 8 = (u : Int) := by omega
  have hz : ((u : Int) == 0) = false := by rw [beq_eq_false_iff_ne]; omega
  have q1 : ∀ V, (W.setCell ⟨g, cs.length, none⟩ V).cell? ⟨S, 1, none⟩ = some (.int .i64 m0) := fun V => by
    rw [World.cell?_setCell_other _ _ _ _ (fun h => by injection h; omega)]; exact h1
  have hor := or_byte a x u ha hx hu
  have hgS : g ≠ S := by omega
  have e8 : ((m0 + 1 : Nat) : Int) = (m0 : Int) + 1 := by omega
  rw [e8] at HP
  generalize hV : a + x * 2 ^ u = V at *
  have HPV := HP.out V
  have HPV' : Hid _ := HPV
  clear HPV HP hV hmu hown hg2 hg5 hg6 hf
  generalize cs.length = m at *
  generalize cs ++ [V] = ds at *
  go_enter Tryd.func119, Tryd.ntmps119
  go_wp2
  go_region
  go_wp2
  go_returns
  exact ⟨rfl, HPV'.out.1, HPV'.out.2.drew⟩


set_option maxHeartbeats 2000000 in
theorem bit_zero (W : World) (S : Nat) (cs : List Nat) (x : Nat) (hx : x ≤ 1) (m0 : Nat) (hmu : m0 % 8 = 0) (hm0 : m0 ≤ 1000000) (hl : cs.length ≤ 1000000) (hs : SB W S cs m0) :
    Calls Tryd.prog 119 #[.pointer (some ⟨S, 0, none⟩), .int .i64 x] W fun e w' => e = .returned (.tuple #[]) ∧ SB w' S (stp (cs, 0) x).1 (m0 + 1) ∧ Below S W w' := by
  rw [stp_zero]
  obtain ⟨v, h0, h1, hf, hS, hown⟩ := hs
  obtain ⟨i0, hi, hz0, hz1, hz2⟩ := info_parts Tryd.info5
  have hsh : ∃ a n c, v = .slice a n c := by
    rcases hown.2 with ⟨rfl, _⟩ | ⟨g, cap, cur, rfl, _⟩
    · exact ⟨_, _, _, rfl⟩
    · exact ⟨_, _, _, rfl⟩
  have hvS : v.ownBlock ≠ some S := fun e => by have := hown.lt S e; omega
  have f0 := hf 0
  have HF : Hid _ := hf
  have H1 : Hid _ := h1
  have HO : Hid (W.ownsRow (S + 1) 5 1 v cs.length (bc cs)) := hown
  have ho2 := hown.alloc (.cells #[.int .u8 0] 5)
  have HO2 : Hid ((W.alloc (.cells #[.int .u8 0] 5)).ownsRow (S + 1) 5 1 v cs.length (bc cs)) := ho2
  clear hf hown ho2
  obtain ⟨a, n, c, rfl⟩ := hsh
  have hmu' : (m0 : Int) % 8 = 0 := by omega
  clear hmu
  go_enter Tryd.func119, Tryd.ntmps119
  go_wp2_with (first
    | (at_builtin; refine wpList_append_own _ rfl _ _ 22 rfl (S + 1) 5 i0 (.int .u8 0) 1 1 Tryd.underlying22 hi hz0 hz1 hz2 rfl (by decide) _ _ _ rfl HO2.out ⟨W.heap.size, 0, none⟩ 1 1 [.int .u8 0] rfl rfl ?c1 ?c2 ?c3 ?c4 ?c5 ?_)
    | go_in)
  case c1 =>
    intro j u hj
    match j, hj with
    | 0, hj => simp at hj; subst hj; simp [Addr.add]
  case c2 => intro u hu; simp at hu; subst hu; rfl
  case c3 => unfold maxLen; omega
  case c4 => omega
  case c5 => simp; omega
  intro v' w1 hown' hgrow hnn
  have hsz := hgrow.size
  simp at hsz
  have hform := hown'.2
  rcases hform with ⟨h, _⟩ | ⟨g, cap, cur, rfl, hg1, hg2, hg3, hg4, hg5, hg6⟩
  · exact absurd h hnn
  rw [show (Value.int .u8 0) = Value.int .u8 ((0 : Nat) : Int) from rfl, bc_snoc] at hown'
  have c0 : (W.alloc (.cells #[.int .u8 0] 5)).cell? ⟨S, 0, none⟩ = some (.slice a n c) := by rw [World.cell?_alloc_past _ _ _ hS]; exact h0
  have c1 : (W.alloc (.cells #[.int .u8 0] 5)).cell? ⟨S, 1, none⟩ = some (.int .i64 (m0 : Int)) := by rw [World.cell?_alloc_past _ _ _ hS]; exact h1
  have d0 := hgrow.cell c0 (fun e => hvS e.symm)
  have d1 := hgrow.cell c1 (fun e => hvS e.symm)
  have df : ∀ o, w1.frozen? ⟨S, o, none⟩ = false := fun o => by
    rw [hgrow.frozen_far ⟨S, o, none⟩ (by show S < _; simp; omega) (fun e => hvS e.symm), World.frozen?_alloc_past _ _ _ hS]; exact HF.out o
  have f0' := df 0
  have hbel : Below S W w1 := by
    have hb0 : Below S W (W.alloc (.cells #[.int .u8 0] 5)) := (Below.refl S W).alloc (by omega) _
    refine hb0.trans ⟨hgrow.os, hgrow.tape, hgrow.output, hgrow.size, fun k hk => hgrow.block k (by simp; omega) (fun e => ?_)⟩
    have := World.ownsRow.lt HO.out k e.symm
    omega
  have HB2 : Hid (Below S W (w1.setCell ⟨S, 0, none⟩ (.slice (some ⟨g, 0, none⟩) (cs.length + 1) cap))) := hbel.setCell (show S ≤ (Addr.mk S 0 none).block from Nat.le_refl S) _
  have k0 : (w1.setCell ⟨S, 0, none⟩ (.slice (some ⟨g, 0, none⟩) (cs.length + 1) cap)).cell? ⟨S, 0, none⟩ = some (.slice (some ⟨g, 0, none⟩) (cs.length + 1) cap) := World.cell?_setCell_same w1 ⟨S, 0, none⟩ _ d0
  have k1 : (w1.setCell ⟨S, 0, none⟩ (.slice (some ⟨g, 0, none⟩) (cs.length + 1) cap)).cell? ⟨S, 1, none⟩ = some (.int .i64 (m0 : Int)) := by
    rw [World.cell?_setCell_other _ _ _ _ (fun h => by injection h; omega)]; exact d1
  have hown2 := own_other hown' S 0 (.slice (some ⟨g, 0, none⟩) (cs.length + 1) cap) (by omega)
  have kf : ∀ o, (w1.setCell ⟨S, 0, none⟩ (.slice (some ⟨g, 0, none⟩) (cs.length + 1) cap)).frozen? ⟨S, o, none⟩ = false := fun o => by rw [World.frozen?_setCell]; exact df o
  have HP0 := sb_put _ S g cap cs 0 x (m0 + 1) k0 ⟨_, k1⟩ kf hown2
  rw [show ((m0 + 1 : Nat) : Int) = (m0 : Int) + 1 by omega] at HP0
  have HP : Hid _ := HP0
  clear HP0
  have hcell : (w1.setCell ⟨S, 0, none⟩ (.slice (some ⟨g, 0, none⟩) (cs.length + 1) cap)).cell? ⟨g, cs.length, none⟩ = some (.int .u8 ((0 : Nat) : Int)) := by
    rw [hown2.cellAt cs.length (by omega)]; simp [bc]
  have fg := hown2.frozenAt cs.length
  have fS := kf 1
  have hgS : g ≠ S := by omega
  clear hown2 hown' kf df hbel hg2 hg5 hg6 hgrow c0 c1 HO HF H1 HO2 d1 hnn
  go_wp2
  clear f0' d0
  generalize w1.setCell ⟨S, 0, none⟩ (.slice (some ⟨g, 0, none⟩) (cs.length + 1) cap) = W2 at *
  have q1 : ∀ V, (W2.setCell ⟨g, cs.length, none⟩ V).cell? ⟨S, 1, none⟩ = some (.int .i64 (m0 : Int)) := fun V => by
    rw [World.cell?_setCell_other _ _ _ _ (fun h => by injection h; omega)]; exact k1
  have hor : bits .or .u8 0 (x : Int) = (x : Int) := by
    have h := (bits_nat .u8 8 (by decide) (fun n h0 h2 => by rw [IntKind.wrap_u8]; omega) 0 x (by omega) (by omega)).2
    rw [Nat.zero_or] at h; exact h
  go_region
  go_wp2
  go_returns
  exact ⟨rfl, HP.out.1, (Below.trans HB2.out HP.out.2).drew⟩

theorem stp_u (bs : List Nat) (m x : Nat) : (stp (bs, m % 8) x).2 = (m + 1) % 8 := by
  unfold stp
  split
  · rename_i h; dsimp only at h ⊢; omega
  · dsimp only; omega
theorem bit_any (W : World) (S : Nat) (bs : List Nat) (m x : Nat) (hx : x ≤ 1) (hm : m ≤ 1000000) (hl : bs.length ≤ 1000000) (hfi : Fine (bs, m % 8)) (hs : SB W S bs m) :
    Calls Tryd.prog 119 #[.pointer (some ⟨S, 0, none⟩), .int .i64 x] W fun e w' => e = .returned (.tuple #[]) ∧ SB w' S (stp (bs, m % 8) x).1 (m + 1) ∧ Below S W w' := by
  by_cases hu : m % 8 = 0
  · rw [hu]; exact bit_zero W S bs x hx m hu hm hl hs
  · obtain ⟨h1, h2, h3⟩ := hfi
    obtain ⟨cs, a, e, ha⟩ := h3 hu
    dsimp only at e ha h1
    subst e
    exact bit_more W S cs a x (m % 8) ha hx m rfl hm hu (by simp at hl; omega) hs
theorem puts_u (bs : List Nat) (m : Nat) (xs : List Nat) : (puts (bs, m % 8) xs).2 = (m + xs.length) % 8 := by
  induction xs generalizing bs m with
  | nil => rfl
  | cons x xs ih =>
    show (puts (stp (bs, m % 8) x) xs).2 = _
    have e : stp (bs, m % 8) x = ((stp (bs, m % 8) x).1, (m + 1) % 8) := by rw [← stp_u bs m x]
    rw [e, ih, List.length_cons]
    congr 1; omega
/-- The bits of a code, the highest first: of k bits those from the i-th on that have been laid. -/
def codeOf (n k : Nat) : List Nat := (List.range k).map (fun i => n / 2 ^ (k - 1 - i) % 2)
theorem codeOf_len (n k : Nat) : (codeOf n k).length = k := by simp [codeOf]
theorem codeOf_take (n k j : Nat) (hj : j < k) : (codeOf n k).take (j + 1) = (codeOf n k).take j ++ [n / 2 ^ (k - 1 - j) % 2] := by
  rw [List.take_succ_eq_append_getElem (by rw [codeOf_len]; exact hj)]
  simp [codeOf]
theorem fine_puts (s : List Nat × Nat) (xs : List Nat) (h : Fine s) (hx : ∀ x ∈ xs, x ≤ 1) : Fine (puts s xs) := by
  induction xs generalizing s with
  | nil => exact h
  | cons x xs ih => exact ih (stp s x) (fine_step s x h (hx x (by simp))) (fun y hy => hx y (by simp [hy]))
theorem codeOf_bits (n k j : Nat) : ∀ x ∈ (codeOf n k).take j, x ≤ 1 := by
  intro x hx
  have := List.mem_of_mem_take hx
  simp [codeOf] at this
  obtain ⟨i, _, rfl⟩ := this
  omega
theorem bitsOf_bits (n k : Nat) : ∀ x ∈ bitsOf n k, x ≤ 1 := by
  intro x hx
  simp [bitsOf] at hx
  obtain ⟨i, _, rfl⟩ := hx
  omega
end Go.Proofs.YteehoihkbcbbgaaDoor
