/-
  What the program's sink of bits does with one bit; each theorem names its conditions.
-/
import Derived.Test.YteehoihkbcbbgaaDoorBytes
import Derived.BigRegion
import Derived.OwnWalk
import Derived.Handy
import Derived.Deep.AppendLies
namespace Go.Proofs.YteehoihkbcbbgaaDoor
open Go.ChangeShapes Go.WideShapes Go.ChangeAt Go.RowKit
set_option linter.unusedVariables false

theorem pow_small (u : Nat) (hu : u < 8) : 1 ≤ 2 ^ u ∧ 2 ^ u ≤ 128 := by
  have : ∀ i : Fin 8, 1 ≤ 2 ^ i.val ∧ 2 ^ i.val ≤ 128 := by decide
  exact this ⟨u, hu⟩
theorem or_byte (a x u : Nat) (ha : a < 2 ^ u) (hx : x ≤ 1) (hu : u < 8) : bits .or .u8 (a : Int) (wrap64 ((x : Int) * 2 ^ u) % 256) = ((a + x * 2 ^ u : Nat) : Int) := by
  have p := (pow_small u hu).2
  have hm : x * 2 ^ u ≤ 128 := by
    have := Nat.mul_le_mul hx p; omega
  have e1 : (x : Int) * 2 ^ u = ((x * 2 ^ u : Nat) : Int) := by simp
  have e2 : wrap64 ((x : Int) * 2 ^ u) % 256 = ((x * 2 ^ u : Nat) : Int) := by
    rw [e1]
    generalize x * 2 ^ u = y at *
    rw [IntWalk.wrap64_in _ ⟨by omega, by omega⟩]; omega
  rw [e2]
  have h1 : a ||| x * 2 ^ u = a + x * 2 ^ u := by
    rw [Nat.mul_comm, Nat.or_comm, Nat.add_comm, Nat.two_pow_add_eq_or_of_lt ha]
  have h := (bits_nat .u8 8 (by decide) (fun n h0 h2 => by rw [IntKind.wrap_u8]; omega) a (x * 2 ^ u) (by omega) (by omega)).2
  rw [h, h1]

/-- The cells of bytes. -/
def bc (bs : List Nat) : List Value := bs.map (fun b : Nat => Value.int .u8 (b : Int))
/-- The sink in the block S holds the bytes bs, of whose last one u bits are laid (0: all). -/
def Sink (w : World) (S : Nat) (bs : List Nat) (u : Nat) : Prop :=
  ∃ v, w.cell? ⟨S, 0, none⟩ = some v ∧ w.cell? ⟨S, 1, none⟩ = some (.int .i64 u) ∧ (∀ o, w.frozen? ⟨S, o, none⟩ = false) ∧ S < w.heap.size ∧ w.ownsRow (S + 1) 5 1 v bs.length (bc bs)
/-- One bit more. -/
def stp (s : List Nat × Nat) (x : Nat) : List Nat × Nat :=
  if s.2 = 0 then (s.1 ++ [x], 1) else (s.1.set (s.1.length - 1) (s.1.getD (s.1.length - 1) 0 + x * 2 ^ s.2), (s.2 + 1) % 8)
theorem stp_zero (bs : List Nat) (x : Nat) : stp (bs, 0) x = (bs ++ [x], 1) := rfl
theorem stp_more (bs : List Nat) (a u x : Nat) (h : u ≠ 0) : stp (bs ++ [a], u) x = (bs ++ [a + x * 2 ^ u], (u + 1) % 8) := by
  unfold stp
  rw [if_neg h]
  simp [List.set_append_right]
/-- All is as it should be. -/
def Fine (s : List Nat × Nat) : Prop := s.2 < 8 ∧ (∀ b ∈ s.1, b < 256) ∧ (s.2 ≠ 0 → ∃ bs a, s.1 = bs ++ [a] ∧ a < 2 ^ s.2)
theorem fine_step (s : List Nat × Nat) (x : Nat) (h : Fine s) (hx : x ≤ 1) : Fine (stp s x) := by
  obtain ⟨bs, u⟩ := s
  obtain ⟨h1, h2, h3⟩ := h
  dsimp only at h1 h2 h3
  by_cases hu : u = 0
  · subst hu
    rw [stp_zero]
    refine ⟨by show 1 < 8; omega, fun b hb => ?_, fun _ => ⟨bs, x, rfl, by show x < 2 ^ 1; omega⟩⟩
    rcases List.mem_append.1 hb with hb | hb
    · exact h2 b hb
    · simp at hb; omega
  · obtain ⟨cs, a, rfl, ha⟩ := h3 hu
    rw [stp_more cs a u x hu]
    have p := pow_small u h1
    have hm := Nat.mul_le_mul hx (Nat.le_refl (2 ^ u))
    have e : 2 ^ (u + 1) = 2 ^ u * 2 := Nat.pow_succ 2 u
    refine ⟨Nat.mod_lt _ (by omega), fun b hb => ?_, fun hne => ⟨cs, _, rfl, ?_⟩⟩
    · rcases List.mem_append.1 hb with hb | hb
      · exact h2 b (List.mem_append.2 (Or.inl hb))
      · simp at hb; omega
    · show _ < 2 ^ ((u + 1) % 8)
      have h7 : u + 1 < 8 := by
        by_cases e7 : u + 1 = 8
        · exact absurd (by show (u + 1) % 8 = 0; omega) hne
        · omega
      rw [Nat.mod_eq_of_lt h7, e]; omega
theorem stp_len (s : List Nat × Nat) (x : Nat) : (stp s x).1.length ≤ s.1.length + 1 := by
  unfold stp; split <;> simp

theorem own_other {w : World} {base : Nat} {v : Value} {n : Nat} {xs : List Value} (h : w.ownsRow base 5 1 v n xs) (S o : Nat) (u : Value) (hS : S < base) : (w.setCell ⟨S, o, none⟩ u).ownsRow base 5 1 v n xs := by
  refine h.kept (row := some S) ⟨rfl, rfl, rfl, by simp, fun k _ hk => heap_setCell_other w ⟨S, o, none⟩ k u (fun e => hk (by simp [e]))⟩ ?_
  by_cases hb : v.ownBlock = none
  · exact Or.inl hb
  · right
    intro e
    have := h.lt S e
    omega

theorem sink_put (W : World) (S g cap : Nat) (bs : List Nat) (a V u : Nat)
    (h0 : W.cell? ⟨S, 0, none⟩ = some (.slice (some ⟨g, 0, none⟩) (bs.length + 1) cap)) (h1 : ∃ z, W.cell? ⟨S, 1, none⟩ = some z) (hf : ∀ o, W.frozen? ⟨S, o, none⟩ = false)
    (hown : W.ownsRow (S + 1) 5 1 (.slice (some ⟨g, 0, none⟩) (bs.length + 1) cap) (bs.length + 1) (bc (bs ++ [a]))) :
    Sink ((W.setCell ⟨g, bs.length, none⟩ (.int .u8 (V : Int))).setCell ⟨S, 1, none⟩ (.int .i64 (u : Int))) S (bs ++ [V]) u ∧ Below S W ((W.setCell ⟨g, bs.length, none⟩ (.int .u8 (V : Int))).setCell ⟨S, 1, none⟩ (.int .i64 (u : Int))) := by
  obtain ⟨z, h1⟩ := h1
  have hg := hown.lt g rfl
  have hS : S < W.heap.size := World.block_lt_of_cell? _ _ h0
  obtain ⟨s1, s2⟩ := hown.stored bs.length (.int .u8 (V : Int))
  refine ⟨⟨.slice (some ⟨g, 0, none⟩) (bs.length + 1) cap, ?_, ?_, ?_, by simpa [World.setCell] using hS, ?_⟩, ?_⟩
  · rw [World.cell?_setCell_other _ _ _ _ (fun h => by injection h; omega), World.cell?_setCell_other _ _ _ _ (fun h => by injection h; omega)]; exact h0
  · apply World.cell?_setCell_same (u := z)
    rw [World.cell?_setCell_other _ _ _ _ (fun h => by injection h; omega)]; exact h1
  · intro o; rw [World.frozen?_setCell, World.frozen?_setCell]; exact hf o
  · have e : (bc (bs ++ [a])).set bs.length (.int .u8 (V : Int)) = bc (bs ++ [V]) := by
      simp [bc]
    rw [e] at s1
    have := own_other s1 S 1 (.int .i64 (u : Int)) (by omega)
    simpa using this
  · exact ((Below.refl S W).setCell (show S ≤ (Addr.mk g bs.length none).block by show S ≤ g; omega) _).setCell (show S ≤ (Addr.mk S 1 none).block from Nat.le_refl S) _

set_option maxHeartbeats 2000000 in
theorem putBit_more (W : World) (S : Nat) (cs : List Nat) (a x u : Nat) (ha : a < 2 ^ u) (hx : x ≤ 1) (hu : u < 8) (hu0 : u ≠ 0) (hl : cs.length ≤ 1000000) (hs : Sink W S (cs ++ [a]) u) :
    Calls Tryd.prog 150 #[.pointer (some ⟨S, 0, none⟩), .int .i64 x] W fun e w' => e = .returned (.tuple #[]) ∧ Sink w' S (stp (cs ++ [a], u) x).1 (stp (cs ++ [a], u) x).2 ∧ Below S W w' := by
  rw [stp_more cs a u x hu0]
  obtain ⟨v, h0, h1, hf, hS, hown⟩ := hs
  have hn : (cs ++ [a]).length = cs.length + 1 := by simp
  rw [hn] at hown
  have hform := hown.2
  rcases hform with ⟨_, h⟩ | ⟨g, cap, cur, rfl, hg1, hg2, hg3, hg4, hg5, hg6⟩
  · omega
  have HP : Hid (∀ V : Nat, Sink ((W.setCell ⟨g, cs.length, none⟩ (.int .u8 (V : Int))).setCell ⟨S, 1, none⟩ (.int .i64 (((u + 1) % 8 : Nat) : Int))) S (cs ++ [V]) ((u + 1) % 8) ∧ Below S W ((W.setCell ⟨g, cs.length, none⟩ (.int .u8 (V : Int))).setCell ⟨S, 1, none⟩ (.int .i64 (((u + 1) % 8 : Nat) : Int)))) :=
    fun V => sink_put W S g cap cs a V _ h0 ⟨_, h1⟩ hf hown
  have hcell : W.cell? ⟨g, cs.length, none⟩ = some (.int .u8 (a : Int)) := by
    rw [hown.cellAt cs.length (by omega)]; simp [bc]
  have fg := hown.frozenAt cs.length
  have fS := hf 1
  have hz : ((u : Int) == 0) = false := by rw [beq_eq_false_iff_ne]; omega
  have q1 : ∀ V, (W.setCell ⟨g, cs.length, none⟩ V).cell? ⟨S, 1, none⟩ = some (.int .i64 u) := fun V => by
    rw [World.cell?_setCell_other _ _ _ _ (fun h => by injection h; omega)]; exact h1
  have hor := or_byte a x u ha hx hu
  have hgS : g ≠ S := by omega
  have e8 : ((((u + 1) % 8 : Nat) : Int)) = ((u : Int) + 1) % 8 := by omega
  rw [e8] at HP
  generalize hV : a + x * 2 ^ u = V at *
  have HPV := HP.out V
  have HPV' : Hid _ := HPV
  clear HPV HP hV hown hg2 hg5 hg6 hf
  generalize cs.length = m at *
  generalize cs ++ [V] = ds at *
  go_enter Tryd.func150, Tryd.ntmps150
  go_wp2
  go_region
  go_wp2
  go_returns
  exact ⟨rfl, HPV'.out.1, HPV'.out.2.drew⟩

theorem bc_snoc (bs : List Nat) (a : Nat) : bc bs ++ [.int .u8 (a : Int)] = bc (bs ++ [a]) := by simp [bc]

set_option maxHeartbeats 2000000 in
theorem putBit_zero (W : World) (S : Nat) (cs : List Nat) (x : Nat) (hx : x ≤ 1) (hl : cs.length ≤ 1000000) (hs : Sink W S cs 0) :
    Calls Tryd.prog 150 #[.pointer (some ⟨S, 0, none⟩), .int .i64 x] W fun e w' => e = .returned (.tuple #[]) ∧ Sink w' S (stp (cs, 0) x).1 (stp (cs, 0) x).2 ∧ Below S W w' := by
  rw [stp_zero]
  obtain ⟨v, h0, h1, hf, hS, hown⟩ := hs
  obtain ⟨i0, hi, hz0, hz1, hz2⟩ := info_parts Tryd.info5
  have hsh : ∃ a n c, v = .slice a n c := by
    rcases hown.2 with ⟨rfl, _⟩ | ⟨g, cap, cur, rfl, _⟩
    · exact ⟨_, _, _, rfl⟩
    · exact ⟨_, _, _, rfl⟩
  have hvS : v.ownBlock ≠ some S := fun e => by have := hown.lt S e; omega
  have f0 := hf 0
  have HF : Hid _ := hf
  have H1 : Hid _ := h1
  have HO : Hid (W.ownsRow (S + 1) 5 1 v cs.length (bc cs)) := hown
  have ho2 := hown.alloc (.cells #[.int .u8 0] 5)
  have HO2 : Hid ((W.alloc (.cells #[.int .u8 0] 5)).ownsRow (S + 1) 5 1 v cs.length (bc cs)) := ho2
  clear hf hown ho2
  obtain ⟨a, n, c, rfl⟩ := hsh
  go_enter Tryd.func150, Tryd.ntmps150
  go_wp2_with (first
    | (at_builtin; refine wpList_append_own _ rfl _ _ 22 rfl (S + 1) 5 i0 (.int .u8 0) 1 1 Tryd.underlying22 hi hz0 hz1 hz2 rfl (by decide) _ _ _ rfl HO2.out ⟨W.heap.size, 0, none⟩ 1 1 [.int .u8 0] rfl rfl ?c1 ?c2 ?c3 ?c4 ?c5 ?_)
    | go_in)
  case c1 =>
    intro j u hj
    match j, hj with
    | 0, hj => simp at hj; subst hj; simp [Addr.add]
  case c2 => intro u hu; simp at hu; subst hu; rfl
  case c3 => unfold maxLen; omega
  case c4 => omega
  case c5 => simp; omega
  intro v' w1 hown' hgrow hnn
  have hsz := hgrow.size
  simp at hsz
  have hform := hown'.2
  rcases hform with ⟨h, _⟩ | ⟨g, cap, cur, rfl, hg1, hg2, hg3, hg4, hg5, hg6⟩
  · exact absurd h hnn
  rw [show (Value.int .u8 0) = Value.int .u8 ((0 : Nat) : Int) from rfl, bc_snoc] at hown'
  have c0 : (W.alloc (.cells #[.int .u8 0] 5)).cell? ⟨S, 0, none⟩ = some (.slice a n c) := by rw [World.cell?_alloc_past _ _ _ hS]; exact h0
  have c1 : (W.alloc (.cells #[.int .u8 0] 5)).cell? ⟨S, 1, none⟩ = some (.int .i64 ((0 : Nat) : Int)) := by rw [World.cell?_alloc_past _ _ _ hS]; exact h1
  have d0 := hgrow.cell c0 (fun e => hvS e.symm)
  have d1 := hgrow.cell c1 (fun e => hvS e.symm)
  have df : ∀ o, w1.frozen? ⟨S, o, none⟩ = false := fun o => by
    rw [hgrow.frozen_far ⟨S, o, none⟩ (by show S < _; simp; omega) (fun e => hvS e.symm), World.frozen?_alloc_past _ _ _ hS]; exact HF.out o
  have f0' := df 0
  have hbel : Below S W w1 := by
    have hb0 : Below S W (W.alloc (.cells #[.int .u8 0] 5)) := (Below.refl S W).alloc (by omega) _
    refine hb0.trans ⟨hgrow.os, hgrow.tape, hgrow.output, hgrow.size, fun k hk => hgrow.block k (by simp; omega) (fun e => ?_)⟩
    have := World.ownsRow.lt HO.out k e.symm
    omega
  have HB2 : Hid (Below S W (w1.setCell ⟨S, 0, none⟩ (.slice (some ⟨g, 0, none⟩) (cs.length + 1) cap))) := hbel.setCell (show S ≤ (Addr.mk S 0 none).block from Nat.le_refl S) _
  have k0 : (w1.setCell ⟨S, 0, none⟩ (.slice (some ⟨g, 0, none⟩) (cs.length + 1) cap)).cell? ⟨S, 0, none⟩ = some (.slice (some ⟨g, 0, none⟩) (cs.length + 1) cap) := World.cell?_setCell_same w1 ⟨S, 0, none⟩ _ d0
  have k1 : (w1.setCell ⟨S, 0, none⟩ (.slice (some ⟨g, 0, none⟩) (cs.length + 1) cap)).cell? ⟨S, 1, none⟩ = some (.int .i64 ((0 : Nat) : Int)) := by
    rw [World.cell?_setCell_other _ _ _ _ (fun h => by injection h; omega)]; exact d1
  have hown2 := own_other hown' S 0 (.slice (some ⟨g, 0, none⟩) (cs.length + 1) cap) (by omega)
  have kf : ∀ o, (w1.setCell ⟨S, 0, none⟩ (.slice (some ⟨g, 0, none⟩) (cs.length + 1) cap)).frozen? ⟨S, o, none⟩ = false := fun o => by rw [World.frozen?_setCell]; exact df o
  have HP : Hid _ := sink_put _ S g cap cs 0 x 1 k0 ⟨_, k1⟩ kf hown2
  have hcell : (w1.setCell ⟨S, 0, none⟩ (.slice (some ⟨g, 0, none⟩) (cs.length + 1) cap)).cell? ⟨g, cs.length, none⟩ = some (.int .u8 ((0 : Nat) : Int)) := by
    rw [hown2.cellAt cs.length (by omega)]; simp [bc]
  have fg := hown2.frozenAt cs.length
  have fS := kf 1
  have hgS : g ≠ S := by omega
  clear hown2 hown' kf df hbel hg2 hg5 hg6 hgrow c0 c1 HO HF H1 HO2 d1 hnn
  go_wp2
  clear f0' d0
  generalize w1.setCell ⟨S, 0, none⟩ (.slice (some ⟨g, 0, none⟩) (cs.length + 1) cap) = W2 at *
  have q1 : ∀ V, (W2.setCell ⟨g, cs.length, none⟩ V).cell? ⟨S, 1, none⟩ = some (.int .i64 ((0 : Nat) : Int)) := fun V => by
    rw [World.cell?_setCell_other _ _ _ _ (fun h => by injection h; omega)]; exact k1
  have hor : bits .or .u8 0 (x : Int) = (x : Int) := by
    have h := (bits_nat .u8 8 (by decide) (fun n h0 h2 => by rw [IntKind.wrap_u8]; omega) 0 x (by omega) (by omega)).2
    rw [Nat.zero_or] at h; exact h
  go_region
  go_wp2
  go_returns
  exact ⟨rfl, HP.out.1, (Below.trans HB2.out HP.out.2).drew⟩

theorem putBit_any (W : World) (S : Nat) (s : List Nat × Nat) (x : Nat) (hx : x ≤ 1) (hl : s.1.length ≤ 1000000) (hfi : Fine s) (hs : Sink W S s.1 s.2) :
    Calls Tryd.prog 150 #[.pointer (some ⟨S, 0, none⟩), .int .i64 x] W fun e w' => e = .returned (.tuple #[]) ∧ Sink w' S (stp s x).1 (stp s x).2 ∧ Below S W w' := by
  obtain ⟨bs, u⟩ := s
  by_cases hu : u = 0
  · subst hu; exact putBit_zero W S bs x hx hl hs
  · obtain ⟨h1, h2, h3⟩ := hfi
    obtain ⟨cs, a, e, ha⟩ := h3 hu
    dsimp only at e ha hs h1 hl
    subst e
    exact putBit_more W S cs a x u ha hx h1 hu (by simp at hl; omega) hs

end Go.Proofs.YteehoihkbcbbgaaDoor
