/-
  Small facts for the walks over the fixed numbers: what a call that only makes new memory leaves as it was, and quotients of integers rounded down; no condition.
  Rows of numbers in memory; each theorem names its conditions.
  What the program's sink of bits does with one bit; each theorem names its conditions.
  What the program's sink of bits does with a number; each theorem names its conditions.
-/
import Derived.Test.YtaeicgfebeliiaaGreatDoorRows
import Derived.WalkKit
import Derived.ProofKit
import Derived.OpenShut
import Derived.Below
import Derived.WalkSpells
import Derived.WalkLawsBesides
import Derived.Deep.QuietTactic
import Derived.BigQuiet
import Derived.Deep.OwnRows
import Derived.BigRegion
import Derived.OwnWalk
import Derived.Handy
import Derived.Deep.AppendLies
import Derived.Deep.RegionWith
namespace Go.Proofs.YtaeicgfebeliiaaGreatDoor
open Go.ChangeShapes Go.WideShapes Go.ChangeAt Go.RowKit

/-- The call made new memory at most: all that was there is as it was. -/
def Kp (w w' : World) : Prop := Below w.heap.size w w' ∧ ∀ a, w'.frozen? a = w.frozen? a

theorem Kp.refl (w : World) : Kp w w := ⟨Below.refl _ _, fun _ => rfl⟩
theorem Kp.size {w w' : World} (h : Kp w w') : w.heap.size ≤ w'.heap.size := h.1.size
theorem Kp.trans {w w1 w2 : World} (h : Kp w w1) (k : Kp w1 w2) : Kp w w2 :=
  ⟨h.1.trans (k.1.mono h.1.size), fun a => (k.2 a).trans (h.2 a)⟩
theorem Kp.alloc {w w1 : World} (h : Kp w w1) (c : Array Value) (t : TypeId) : Kp w (w1.alloc (.cells c t)) :=
  ⟨h.1.alloc h.1.size _, fun a => (frozen?_alloc_cells _ _ _ a).trans (h.2 a)⟩
theorem Kp.drew {w w1 : World} (h : Kp w w1) : Kp w w1.drew := ⟨h.1.drew, h.2⟩
theorem Kp.setCell {w w1 : World} (h : Kp w w1) {a : Addr} (ha : w.heap.size ≤ a.block) (v : Value) : Kp w (w1.setCell a v) :=
  ⟨h.1.setCell ha v, fun x => (World.frozen?_setCell _ _ _ _).trans (h.2 x)⟩
theorem Kp.grown {w w1 : World} (h : Kp w w1) : Grown w w1 := ⟨h.1.frame _, h.2, h.1.size⟩
theorem Kp.drewN {w w1 : World} (h : Kp w w1) (n : Nat) : Kp w (w1.drewN n) :=
  h.trans ⟨⟨rfl, rfl, rfl, Nat.le_refl _, fun _ _ => rfl⟩, fun _ => rfl⟩
/-- All old cells and marks read as before. -/
theorem Kp.cells {W w1 : World} (h : Kp W w1) : (∀ b o, b < W.heap.size → w1.cell? ⟨b, o, none⟩ = W.cell? ⟨b, o, none⟩) ∧ (∀ b o, w1.frozen? ⟨b, o, none⟩ = W.frozen? ⟨b, o, none⟩) :=
  ⟨fun b o hb => h.1.cell (p := ⟨b, o, none⟩) hb, fun _ _ => h.2 _⟩

theorem i64_bd {a : Int} (h : (Lit.int .i64 a).wf = true) : -9223372036854775808 ≤ a ∧ a ≤ 9223372036854775807 := by
  simp [Lit.wf, IntKind.min, IntKind.max, IntKind.signed, IntKind.bits] at h; omega
theorem ret_int {k : IntKind} {a b : Int} (h : a = b) : Ending.returned (.int k a) = .returned (.int k b) := by rw [h]

/-! ### Quotients -/
theorem tdiv_neg_of (a b : Int) (ha : a < 0) : a.tdiv b = -((-a) / b) := by
  have h : a = -(-a) := by omega
  rw [h, Int.neg_tdiv, Int.tdiv_eq_ediv_of_nonneg (by omega)]; simp
theorem tmod_neg_of (a b : Int) (ha : a < 0) : a.tmod b = -((-a) % b) := by
  have h : a = -(-a) := by omega
  rw [h, Int.neg_tmod, Int.tmod_eq_emod_of_nonneg (by omega)]; simp
/-- A quotient's size is not above its numerator's. -/
theorem ediv_bd (a b : Int) (ha : 0 ≤ a) (hb : 0 < b) : 0 ≤ a / b ∧ a / b ≤ a :=
  ⟨Int.ediv_nonneg ha (by omega), Int.ediv_le_self _ ha⟩
/-- Down, of a number below 0. -/
theorem ediv_neg_of (a b : Int) (hb : 0 < b) : a / b = if (-a) % b = 0 then -((-a) / b) else -((-a) / b) - 1 := by
  have h1 := Int.mul_ediv_add_emod (-a) b
  have h2 := Int.emod_nonneg (-a) (b := b) (by omega)
  have h3 := Int.emod_lt_of_pos (-a) hb
  generalize (-a) / b = q at *
  generalize (-a) % b = r at *
  have e : a = b * (-q) - r := by rw [Int.mul_neg]; omega
  split
  · rename_i hr
    rw [e, hr, Int.sub_zero, Int.mul_ediv_cancel_left _ (by omega)]
  · rename_i hr
    have e2 : a = (b - r) + b * (-q - 1) := by rw [Int.mul_sub, e]; omega
    rw [e2, Int.add_mul_ediv_left _ _ (by omega), Int.ediv_eq_zero_of_lt (by omega) (by omega)]; omega
end Go.Proofs.YtaeicgfebeliiaaGreatDoor
namespace Go.Proofs.YtaeicgfebeliiaaGreatDoor
open Go.ChangeShapes Go.WideShapes Go.ChangeAt Go.RowKit
set_option linter.unusedVariables false


theorem Tryz.info5 : (Tryz.prog.info? 5).map (fun i => (i.zero, i.size, i.bytes)) = some (some (.int .u8 0), 1, 1) := by kernel_rfl
theorem Tryz.info3 : (Tryz.prog.info? 3).map (fun i => (i.zero, i.size, i.bytes)) = some (some (.int .i64 0), 1, 8) := by kernel_rfl

/-- The numbers zs of the kind k lie at a. -/
def Row (k : IntKind) (w : World) (a : Option Addr) (zs : List Int) : Prop :=
  zs = [] ∨ ∃ b off, a = some ⟨b, off, none⟩ ∧ b < w.heap.size ∧ ∀ i, i < zs.length → w.cell? ⟨b, off + i, none⟩ = some (.int k (zs.getD i 0))

def cellsOf (k : IntKind) (zs : List Int) : Array Value := (zs.map (Value.int k)).toArray
/-- A new list of which the first n numbers have been laid. -/
def part (k : IntKind) (zs : List Int) (n : Nat) : Array Value := ((zs.take n).map (Value.int k) ++ List.replicate (zs.length - n) (Value.int k 0)).toArray
theorem part_all (k : IntKind) (zs : List Int) : part k zs zs.length = cellsOf k zs := by simp [part, cellsOf]
theorem part_none (k : IntKind) (zs : List Int) : madeCells #[Value.int k 0] zs.length = part k zs 0 := by
  simp only [part, madeCells, List.take_zero, List.map_nil, List.nil_append, Nat.sub_zero]
  apply Array.ext_getElem?
  intro i
  simp [Nat.mod_one]
  by_cases h : i < zs.length <;> simp [h]
theorem part_at (k : IntKind) (zs : List Int) (n : Nat) (h : n < zs.length) : (part k zs n)[n]? = some (.int k 0) := by
  simp only [part, List.getElem?_toArray]
  rw [List.getElem?_append_right (by simp; omega)]
  rw [List.getElem?_replicate, if_pos (by simp; omega)]
theorem part_step (k : IntKind) (zs : List Int) (n : Nat) (h : n < zs.length) : (part k zs n).setIfInBounds n (.int k (zs.getD n 0)) = part k zs (n + 1) := by
  have e : zs.length - n = (zs.length - (n + 1)) + 1 := by omega
  have e2 : zs.getD n 0 = zs[n] := by simp [h]
  rw [e2]
  simp only [part, e, List.setIfInBounds_toArray, List.replicate_succ]
  congr 1
  rw [List.take_succ_eq_append_getElem h, List.map_append, List.set_append_right _ _ (by simp; omega)]
  simp [Nat.min_eq_left (Nat.le_of_lt h)]
theorem cellsOf_get (k : IntKind) (zs : List Int) (i : Nat) (h : i < zs.length) : (cellsOf k zs)[i]? = some (.int k (zs.getD i 0)) := by
  simp [cellsOf, h]
theorem row_new (k : IntKind) (w : World) (zs : List Int) (t : TypeId) : Row k (w.alloc (.cells (cellsOf k zs) t)) (some ⟨w.heap.size, 0, none⟩) zs := by
  refine Or.inr ⟨w.heap.size, 0, rfl, by simp, fun i hi => ?_⟩
  have := cellsOf_get k zs i hi
  simp [this]
theorem Row.keep {k : IntKind} {w w1 : World} {a : Option Addr} {zs : List Int} (h : Row k w a zs) (hk : Kp w w1) : Row k w1 a zs := by
  rcases h with h | ⟨b, off, rfl, hb, hc⟩
  · exact Or.inl h
  · exact Or.inr ⟨b, off, rfl, Nat.lt_of_lt_of_le hb hk.size, fun i hi => (hk.cells.1 _ _ hb).trans (hc i hi)⟩

end Go.Proofs.YtaeicgfebeliiaaGreatDoor
namespace Go.Proofs.YtaeicgfebeliiaaGreatDoor
open Go.ChangeShapes Go.WideShapes Go.ChangeAt Go.RowKit
set_option linter.unusedVariables false

theorem pow_small (u : Nat) (hu : u < 8) : 1 ≤ 2 ^ u ∧ 2 ^ u ≤ 128 := by
  have : ∀ i : Fin 8, 1 ≤ 2 ^ i.val ∧ 2 ^ i.val ≤ 128 := by decide
  exact this ⟨u, hu⟩
theorem or_byte (a x u : Nat) (ha : a < 2 ^ u) (hx : x ≤ 1) (hu : u < 8) : bits .or .u8 (a : Int) (wrap64 ((x : Int) * 2 ^ u) % 256) = ((a + x * 2 ^ u : Nat) : Int) := by
  have p := (pow_small u hu).2
  have hm : x * 2 ^ u ≤ 128 := by
    have := Nat.mul_le_mul hx p; omega
  have e1 : (x : Int) * 2 ^ u = ((x * 2 ^ u : Nat) : Int) := by simp
  have e2 : wrap64 ((x : Int) * 2 ^ u) % 256 = ((x * 2 ^ u : Nat) : Int) := by
    rw [e1]
    generalize x * 2 ^ u = y at *
    rw [IntWalk.wrap64_in _ ⟨by omega, by omega⟩]; omega
  rw [e2]
  have h1 : a ||| x * 2 ^ u = a + x * 2 ^ u := by
    rw [Nat.mul_comm, Nat.or_comm, Nat.add_comm, Nat.two_pow_add_eq_or_of_lt ha]
  have h := (bits_nat .u8 8 (by decide) (fun n h0 h2 => by rw [IntKind.wrap_u8]; omega) a (x * 2 ^ u) (by omega) (by omega)).2
  rw [h, h1]

/-- The cells of bytes. -/
def bc (bs : List Nat) : List Value := bs.map (fun b : Nat => Value.int .u8 (b : Int))
/-- The sink in the block S holds the bytes bs, of whose last one u bits are laid (0: all). -/
def Sink (w : World) (S : Nat) (bs : List Nat) (u : Nat) : Prop :=
  ∃ v, w.cell? ⟨S, 0, none⟩ = some v ∧ w.cell? ⟨S, 1, none⟩ = some (.int .i64 u) ∧ (∀ o, w.frozen? ⟨S, o, none⟩ = false) ∧ S < w.heap.size ∧ w.ownsRow (S + 1) 5 1 v bs.length (bc bs)
/-- One bit more. -/
def stp (s : List Nat × Nat) (x : Nat) : List Nat × Nat :=
  if s.2 = 0 then (s.1 ++ [x], 1) else (s.1.set (s.1.length - 1) (s.1.getD (s.1.length - 1) 0 + x * 2 ^ s.2), (s.2 + 1) % 8)
theorem stp_zero (bs : List Nat) (x : Nat) : stp (bs, 0) x = (bs ++ [x], 1) := rfl
theorem stp_more (bs : List Nat) (a u x : Nat) (h : u ≠ 0) : stp (bs ++ [a], u) x = (bs ++ [a + x * 2 ^ u], (u + 1) % 8) := by
  unfold stp
  rw [if_neg h]
  simp [List.set_append_right]
/-- All is as it should be. -/
def Fine (s : List Nat × Nat) : Prop := s.2 < 8 ∧ (∀ b ∈ s.1, b < 256) ∧ (s.2 ≠ 0 → ∃ bs a, s.1 = bs ++ [a] ∧ a < 2 ^ s.2)
theorem fine_step (s : List Nat × Nat) (x : Nat) (h : Fine s) (hx : x ≤ 1) : Fine (stp s x) := by
  obtain ⟨bs, u⟩ := s
  obtain ⟨h1, h2, h3⟩ := h
  dsimp only at h1 h2 h3
  by_cases hu : u = 0
  · subst hu
    rw [stp_zero]
    refine ⟨by show 1 < 8; omega, fun b hb => ?_, fun _ => ⟨bs, x, rfl, by show x < 2 ^ 1; omega⟩⟩
    rcases List.mem_append.1 hb with hb | hb
    · exact h2 b hb
    · simp at hb; omega
  · obtain ⟨cs, a, rfl, ha⟩ := h3 hu
    rw [stp_more cs a u x hu]
    have p := pow_small u h1
    have hm := Nat.mul_le_mul hx (Nat.le_refl (2 ^ u))
    have e : 2 ^ (u + 1) = 2 ^ u * 2 := Nat.pow_succ 2 u
    refine ⟨Nat.mod_lt _ (by omega), fun b hb => ?_, fun hne => ⟨cs, _, rfl, ?_⟩⟩
    · rcases List.mem_append.1 hb with hb | hb
      · exact h2 b (List.mem_append.2 (Or.inl hb))
      · simp at hb; omega
    · show _ < 2 ^ ((u + 1) % 8)
      have h7 : u + 1 < 8 := by
        by_cases e7 : u + 1 = 8
        · exact absurd (by show (u + 1) % 8 = 0; omega) hne
        · omega
      rw [Nat.mod_eq_of_lt h7, e]; omega
theorem stp_len (s : List Nat × Nat) (x : Nat) : (stp s x).1.length ≤ s.1.length + 1 := by
  unfold stp; split <;> simp

theorem own_other {w : World} {base : Nat} {v : Value} {n : Nat} {xs : List Value} (h : w.ownsRow base 5 1 v n xs) (S o : Nat) (u : Value) (hS : S < base) : (w.setCell ⟨S, o, none⟩ u).ownsRow base 5 1 v n xs := by
  refine h.kept (row := some S) ⟨rfl, rfl, rfl, by simp, fun k _ hk => heap_setCell_other w ⟨S, o, none⟩ k u (fun e => hk (by simp [e]))⟩ ?_
  by_cases hb : v.ownBlock = none
  · exact Or.inl hb
  · right
    intro e
    have := h.lt S e
    omega

theorem sink_put (W : World) (S g cap : Nat) (bs : List Nat) (a V u : Nat)
    (h0 : W.cell? ⟨S, 0, none⟩ = some (.slice (some ⟨g, 0, none⟩) (bs.length + 1) cap)) (h1 : ∃ z, W.cell? ⟨S, 1, none⟩ = some z) (hf : ∀ o, W.frozen? ⟨S, o, none⟩ = false)
    (hown : W.ownsRow (S + 1) 5 1 (.slice (some ⟨g, 0, none⟩) (bs.length + 1) cap) (bs.length + 1) (bc (bs ++ [a]))) :
    Sink ((W.setCell ⟨g, bs.length, none⟩ (.int .u8 (V : Int))).setCell ⟨S, 1, none⟩ (.int .i64 (u : Int))) S (bs ++ [V]) u ∧ Below S W ((W.setCell ⟨g, bs.length, none⟩ (.int .u8 (V : Int))).setCell ⟨S, 1, none⟩ (.int .i64 (u : Int))) := by
  obtain ⟨z, h1⟩ := h1
  have hg := hown.lt g rfl
  have hS : S < W.heap.size := World.block_lt_of_cell? _ _ h0
  obtain ⟨s1, s2⟩ := hown.stored bs.length (.int .u8 (V : Int))
  refine ⟨⟨.slice (some ⟨g, 0, none⟩) (bs.length + 1) cap, ?_, ?_, ?_, by simpa [World.setCell] using hS, ?_⟩, ?_⟩
  · rw [World.cell?_setCell_other _ _ _ _ (fun h => by injection h; omega), World.cell?_setCell_other _ _ _ _ (fun h => by injection h; omega)]; exact h0
  · apply World.cell?_setCell_same (u := z)
    rw [World.cell?_setCell_other _ _ _ _ (fun h => by injection h; omega)]; exact h1
  · intro o; rw [World.frozen?_setCell, World.frozen?_setCell]; exact hf o
  · have e : (bc (bs ++ [a])).set bs.length (.int .u8 (V : Int)) = bc (bs ++ [V]) := by
      simp [bc]
    rw [e] at s1
    have := own_other s1 S 1 (.int .i64 (u : Int)) (by omega)
    simpa using this
  · exact ((Below.refl S W).setCell (show S ≤ (Addr.mk g bs.length none).block by show S ≤ g; omega) _).setCell (show S ≤ (Addr.mk S 1 none).block from Nat.le_refl S) _

set_option maxHeartbeats 2000000 in
theorem putBit_more (W : World) (S : Nat) (cs : List Nat) (a x u : Nat) (ha : a < 2 ^ u) (hx : x ≤ 1) (hu : u < 8) (hu0 : u ≠ 0) (hl : cs.length ≤ 1000000) (hs : Sink W S (cs ++ [a]) u) :
    Calls Tryz.prog 134 #[.pointer (some ⟨S, 0, none⟩), .int .i64 x] W fun e w' => e = .returned (.tuple #[]) ∧ Sink w' S (stp (cs ++ [a], u) x).1 (stp (cs ++ [a], u) x).2 ∧ Below S W w' := by
  rw [stp_more cs a u x hu0]
  obtain ⟨v, h0, h1, hf, hS, hown⟩ := hs
  have hn : (cs ++ [a]).length = cs.length + 1 := by simp
  rw [hn] at hown
  have hform := hown.2
  rcases hform with ⟨_, h⟩ | ⟨g, cap, cur, rfl, hg1, hg2, hg3, hg4, hg5, hg6⟩
  · omega
  have HP : Hid (∀ V : Nat, Sink ((W.setCell ⟨g, cs.length, none⟩ (.int .u8 (V : Int))).setCell ⟨S, 1, none⟩ (.int .i64 (((u + 1) % 8 : Nat) : Int))) S (cs ++ [V]) ((u + 1) % 8) ∧ Below S W ((W.setCell ⟨g, cs.length, none⟩ (.int .u8 (V : Int))).setCell ⟨S, 1, none⟩ (.int .i64 (((u + 1) % 8 : Nat) : Int)))) :=
    fun V => sink_put W S g cap cs a V _ h0 ⟨_, h1⟩ hf hown
  have hcell : W.cell? ⟨g, cs.length, none⟩ = some (.int .u8 (a : Int)) := by
    rw [hown.cellAt cs.length (by omega)]; simp [bc]
  have fg := hown.frozenAt cs.length
  have fS := hf 1
  have hz : ((u : Int) == 0) = false := by rw [beq_eq_false_iff_ne]; omega
  have q1 : ∀ V, (W.setCell ⟨g, cs.length, none⟩ V).cell? ⟨S, 1, none⟩ = some (.int .i64 u) := fun V => by
    rw [World.cell?_setCell_other _ _ _ _ (fun h => by injection h; omega)]; exact h1
  have hor := or_byte a x u ha hx hu
  have hgS : g ≠ S := by omega
  have e8 : ((((u + 1) % 8 : Nat) : Int)) = ((u : Int) + 1) % 8 := by omega
  rw [e8] at HP
  generalize hV : a + x * 2 ^ u = V at *
  have HPV := HP.out V
  have HPV' : Hid _ := HPV
  clear HPV HP hV hown hg2 hg5 hg6 hf
  generalize cs.length = m at *
  generalize cs ++ [V] = ds at *
  go_enter Tryz.func134, Tryz.ntmps134
  go_wp2
  go_region
  go_wp2
  go_returns
  exact ⟨rfl, HPV'.out.1, HPV'.out.2.drew⟩

theorem bc_snoc (bs : List Nat) (a : Nat) : bc bs ++ [.int .u8 (a : Int)] = bc (bs ++ [a]) := by simp [bc]

set_option maxHeartbeats 2000000 in
theorem putBit_zero (W : World) (S : Nat) (cs : List Nat) (x : Nat) (hx : x ≤ 1) (hl : cs.length ≤ 1000000) (hs : Sink W S cs 0) :
    Calls Tryz.prog 134 #[.pointer (some ⟨S, 0, none⟩), .int .i64 x] W fun e w' => e = .returned (.tuple #[]) ∧ Sink w' S (stp (cs, 0) x).1 (stp (cs, 0) x).2 ∧ Below S W w' := by
  rw [stp_zero]
  obtain ⟨v, h0, h1, hf, hS, hown⟩ := hs
  obtain ⟨i0, hi, hz0, hz1, hz2⟩ := info_parts Tryz.info5
  have hsh : ∃ a n c, v = .slice a n c := by
    rcases hown.2 with ⟨rfl, _⟩ | ⟨g, cap, cur, rfl, _⟩
    · exact ⟨_, _, _, rfl⟩
    · exact ⟨_, _, _, rfl⟩
  have hvS : v.ownBlock ≠ some S := fun e => by have := hown.lt S e; omega
  have f0 := hf 0
  have HF : Hid _ := hf
  have H1 : Hid _ := h1
  have HO : Hid (W.ownsRow (S + 1) 5 1 v cs.length (bc cs)) := hown
  have ho2 := hown.alloc (.cells #[.int .u8 0] 5)
  have HO2 : Hid ((W.alloc (.cells #[.int .u8 0] 5)).ownsRow (S + 1) 5 1 v cs.length (bc cs)) := ho2
  clear hf hown ho2
  obtain ⟨a, n, c, rfl⟩ := hsh
  go_enter Tryz.func134, Tryz.ntmps134
  go_wp2_with (first
    | (at_builtin; refine wpList_append_own _ rfl _ _ 22 rfl (S + 1) 5 i0 (.int .u8 0) 1 1 Tryz.underlying22 hi hz0 hz1 hz2 rfl (by decide) _ _ _ rfl HO2.out ⟨W.heap.size, 0, none⟩ 1 1 [.int .u8 0] rfl rfl ?c1 ?c2 ?c3 ?c4 ?c5 ?_)
    | go_in)
  case c1 =>
    intro j u hj
    match j, hj with
    | 0, hj => simp at hj; subst hj; simp [Addr.add]
  case c2 => intro u hu; simp at hu; subst hu; rfl
  case c3 => unfold maxLen; omega
  case c4 => omega
  case c5 => simp; omega
  intro v' w1 hown' hgrow hnn
  have hsz := hgrow.size
  simp at hsz
  have hform := hown'.2
  rcases hform with ⟨h, _⟩ | ⟨g, cap, cur, rfl, hg1, hg2, hg3, hg4, hg5, hg6⟩
  · exact absurd h hnn
  rw [show (Value.int .u8 0) = Value.int .u8 ((0 : Nat) : Int) from rfl, bc_snoc] at hown'
  have c0 : (W.alloc (.cells #[.int .u8 0] 5)).cell? ⟨S, 0, none⟩ = some (.slice a n c) := by rw [World.cell?_alloc_past _ _ _ hS]; exact h0
  have c1 : (W.alloc (.cells #[.int .u8 0] 5)).cell? ⟨S, 1, none⟩ = some (.int .i64 ((0 : Nat) : Int)) := by rw [World.cell?_alloc_past _ _ _ hS]; exact h1
  have d0 := hgrow.cell c0 (fun e => hvS e.symm)
  have d1 := hgrow.cell c1 (fun e => hvS e.symm)
  have df : ∀ o, w1.frozen? ⟨S, o, none⟩ = false := fun o => by
    rw [hgrow.frozen_far ⟨S, o, none⟩ (by show S < _; simp; omega) (fun e => hvS e.symm), World.frozen?_alloc_past _ _ _ hS]; exact HF.out o
  have f0' := df 0
  have hbel : Below S W w1 := by
    have hb0 : Below S W (W.alloc (.cells #[.int .u8 0] 5)) := (Below.refl S W).alloc (by omega) _
    refine hb0.trans ⟨hgrow.os, hgrow.tape, hgrow.output, hgrow.size, fun k hk => hgrow.block k (by simp; omega) (fun e => ?_)⟩
    have := World.ownsRow.lt HO.out k e.symm
    omega
  have HB2 : Hid (Below S W (w1.setCell ⟨S, 0, none⟩ (.slice (some ⟨g, 0, none⟩) (cs.length + 1) cap))) := hbel.setCell (show S ≤ (Addr.mk S 0 none).block from Nat.le_refl S) _
  have k0 : (w1.setCell ⟨S, 0, none⟩ (.slice (some ⟨g, 0, none⟩) (cs.length + 1) cap)).cell? ⟨S, 0, none⟩ = some (.slice (some ⟨g, 0, none⟩) (cs.length + 1) cap) := World.cell?_setCell_same w1 ⟨S, 0, none⟩ _ d0
  have k1 : (w1.setCell ⟨S, 0, none⟩ (.slice (some ⟨g, 0, none⟩) (cs.length + 1) cap)).cell? ⟨S, 1, none⟩ = some (.int .i64 ((0 : Nat) : Int)) := by
    rw [World.cell?_setCell_other _ _ _ _ (fun h => by injection h; omega)]; exact d1
  have hown2 := own_other hown' S 0 (.slice (some ⟨g, 0, none⟩) (cs.length + 1) cap) (by omega)
  have kf : ∀ o, (w1.setCell ⟨S, 0, none⟩ (.slice (some ⟨g, 0, none⟩) (cs.length + 1) cap)).frozen? ⟨S, o, none⟩ = false := fun o => by rw [World.frozen?_setCell]; exact df o
  have HP : Hid _ := sink_put _ S g cap cs 0 x 1 k0 ⟨_, k1⟩ kf hown2
  have hcell : (w1.setCell ⟨S, 0, none⟩ (.slice (some ⟨g, 0, none⟩) (cs.length + 1) cap)).cell? ⟨g, cs.length, none⟩ = some (.int .u8 ((0 : Nat) : Int)) := by
    rw [hown2.cellAt cs.length (by omega)]; simp [bc]
  have fg := hown2.frozenAt cs.length
  have fS := kf 1
  have hgS : g ≠ S := by omega
  clear hown2 hown' kf df hbel hg2 hg5 hg6 hgrow c0 c1 HO HF H1 HO2 d1 hnn
  go_wp2
  clear f0' d0
  generalize w1.setCell ⟨S, 0, none⟩ (.slice (some ⟨g, 0, none⟩) (cs.length + 1) cap) = W2 at *
  have q1 : ∀ V, (W2.setCell ⟨g, cs.length, none⟩ V).cell? ⟨S, 1, none⟩ = some (.int .i64 ((0 : Nat) : Int)) := fun V => by
    rw [World.cell?_setCell_other _ _ _ _ (fun h => by injection h; omega)]; exact k1
  have hor : bits .or .u8 0 (x : Int) = (x : Int) := by
    have h := (bits_nat .u8 8 (by decide) (fun n h0 h2 => by rw [IntKind.wrap_u8]; omega) 0 x (by omega) (by omega)).2
    rw [Nat.zero_or] at h; exact h
  go_region
  go_wp2
  go_returns
  exact ⟨rfl, HP.out.1, (Below.trans HB2.out HP.out.2).drew⟩

theorem putBit_any (W : World) (S : Nat) (s : List Nat × Nat) (x : Nat) (hx : x ≤ 1) (hl : s.1.length ≤ 1000000) (hfi : Fine s) (hs : Sink W S s.1 s.2) :
    Calls Tryz.prog 134 #[.pointer (some ⟨S, 0, none⟩), .int .i64 x] W fun e w' => e = .returned (.tuple #[]) ∧ Sink w' S (stp s x).1 (stp s x).2 ∧ Below S W w' := by
  obtain ⟨bs, u⟩ := s
  by_cases hu : u = 0
  · subst hu; exact putBit_zero W S bs x hx hl hs
  · obtain ⟨h1, h2, h3⟩ := hfi
    obtain ⟨cs, a, e, ha⟩ := h3 hu
    dsimp only at e ha hs h1 hl
    subst e
    exact putBit_more W S cs a x u ha hx h1 hu (by simp at hl; omega) hs

end Go.Proofs.YtaeicgfebeliiaaGreatDoor
namespace Go.Proofs.YtaeicgfebeliiaaGreatDoor
open Go.ChangeShapes Go.WideShapes Go.ChangeAt Go.RowKit
set_option linter.unusedVariables false

theorem nil_put (a : Addr) (W : World) : (nilAhead 255 91 (.pointer (some a)) "loop.example/g00137/impl.putBit").run Tryz.prog W = .ok (some false) W := by kernel_rfl

/-- The lowest k bits of n, one by one. -/
def bitsOf (n : Nat) (k : Nat) : List Nat := (List.range k).map (fun i => n / 2 ^ i % 2)
def puts (s : List Nat × Nat) (xs : List Nat) : List Nat × Nat := xs.foldl stp s
theorem bitsOf_succ (n k : Nat) : bitsOf n (k + 1) = bitsOf n k ++ [n / 2 ^ k % 2] := by simp [bitsOf, List.range_succ]
theorem puts_snoc (s : List Nat × Nat) (xs : List Nat) (x : Nat) : puts s (xs ++ [x]) = stp (puts s xs) x := by simp [puts]
theorem puts_fine (s : List Nat × Nat) (n k : Nat) (h : Fine s) : Fine (puts s (bitsOf n k)) := by
  induction k with
  | zero => exact h
  | succ k ih => rw [bitsOf_succ, puts_snoc]; exact fine_step _ _ ih (by omega)
theorem puts_len (s : List Nat × Nat) (xs : List Nat) : (puts s xs).1.length ≤ s.1.length + xs.length := by
  induction xs generalizing s with
  | nil => exact Nat.le_refl _
  | cons x xs ih => have a := ih (stp s x); have b := stp_len s x; show (puts (stp s x) xs).1.length ≤ _; simp; omega
theorem bitsOf_len (n k : Nat) : (bitsOf n k).length = k := by simp [bitsOf]

set_option maxHeartbeats 4000000 in
theorem putNumber_any (W : World) (S : Nat) (s : List Nat × Nat) (n k : Nat) (hn : n < 65536) (hk : k ≤ 16) (hl : s.1.length ≤ 900000) (hfi : Fine s) (hs : Sink W S s.1 s.2) :
    Calls Tryz.prog 78 #[.iface 91 (.pointer (some ⟨S, 0, none⟩)), .int .i64 n, .int .i64 k] W fun e w' => e = .returned (.tuple #[]) ∧ Sink w' S (puts s (bitsOf n k)).1 (puts s (bitsOf n k)).2 ∧ Below S W w' := by
  go_enter Tryz.func78, Tryz.ntmps78
  go_wp2
  go_loopw [8] (fun i wr => ∃ j : Nat, j ≤ k ∧ i = .int .i64 j ∧ Sink wr S (puts s (bitsOf n j)).1 (puts s (bitsOf n j)).2 ∧ Below S W wr) (fun i _ => k - (intOf i).toNat)
  case atStart => exact ⟨0, Nat.zero_le _, rfl, hs, Below.refl _ _⟩
  case round =>
    obtain ⟨j, hj, rfl, hsj, hbj⟩ := hrel
    by_cases hlt : j < k
    · have HS : Hid (Sink wr S (puts s (bitsOf n j)).1 (puts s (bitsOf n j)).2) := hsj
      have HB : Hid (Below S W wr) := hbj
      clear hsj hbj
      have HF : Hid (Fine (puts s (bitsOf n j))) := puts_fine s n j hfi
      have HLn : Hid ((puts s (bitsOf n j)).1.length ≤ 1000000) := by
        have := puts_len s (bitsOf n j); rw [bitsOf_len] at this; show _ ≤ _; omega
      have HC : Hid (∀ W', Sink W' S (puts s (bitsOf n j)).1 (puts s (bitsOf n j)).2 → Calls Tryz.prog 134 #[.pointer (some ⟨S, 0, none⟩), .int .i64 (((n / 2 ^ j : Nat) : Int) % 2)] W' fun e w' => e = .returned (.tuple #[]) ∧ Sink w' S (puts s (bitsOf n (j + 1))).1 (puts s (bitsOf n (j + 1))).2 ∧ Below S W' w') := by
        intro W' h
        rw [bitsOf_succ, puts_snoc, show (((n / 2 ^ j : Nat) : Int) % 2) = ((n / 2 ^ j % 2 : Nat) : Int) by omega]
        exact putBit_any W' S _ _ (by omega) HLn.out HF.out h
      have hd : ((n : Int) / 2 ^ j) = ((n / 2 ^ j : Nat) : Int) := by simp
      have hq : n / 2 ^ j ≤ n := Nat.div_le_self _ _
      have ha : bits .and .i64 ((n / 2 ^ j : Nat) : Int) 1 = ((n / 2 ^ j % 2 : Nat) : Int) := by
        have h := (bits_nat .i64 60 (by decide) (fun m h0 h2 => by rw [IntKind.wrap_i64]; omega) (n / 2 ^ j) 1 (by omega) (by omega)).1
        rw [Nat.and_one_is_mod] at h; exact h
      generalize n / 2 ^ j = d at *
      have hnil := nil_put ⟨S, 0, none⟩
      go_wp2
      go_region_with (go_at_call 134
                      refine Calls.mono (HC.out _ ?_) ?_
                      · exact HS.out
                      rintro e w2 ⟨rfl, hs2, hb2⟩
                      have HS2 : Hid (Sink w2 S (puts s (bitsOf n (j + 1))).1 (puts s (bitsOf n (j + 1))).2) := hs2
                      have HB2 : Hid (Below S wr w2) := (Below.refl S wr).drew.trans hb2
                      clear hs2 hb2)
      go_wp2
      go_roundw
      case rel => exact ⟨j + 1, by omega, by go_num, HS2.out, HB.out.trans HB2.out⟩
      case measure => simp [intOf]; omega
    · have e : j = k := by omega
      subst e
      have HS : Hid _ := hsj
      have HB : Hid _ := hbj
      clear hsj hbj
      go_wp2
      go_returns
      exact ⟨rfl, HS.out, HB.out⟩

theorem puts_append (s : List Nat × Nat) (xs ys : List Nat) : puts s (xs ++ ys) = puts (puts s xs) ys := by simp [puts]
theorem puts8 (bs : List Nat) (b : Nat) (hb : b < 256) : puts (bs, 0) (bitsOf b 8) = (bs ++ [b], 0) := by
  have e : bitsOf b 8 = [b / 2 ^ 0 % 2, b / 2 ^ 1 % 2, b / 2 ^ 2 % 2, b / 2 ^ 3 % 2, b / 2 ^ 4 % 2, b / 2 ^ 5 % 2, b / 2 ^ 6 % 2, b / 2 ^ 7 % 2] := rfl
  rw [e]
  show stp (stp (stp (stp (stp (stp (stp (stp (bs, 0) _) _) _) _) _) _) _) _ = _
  rw [stp_zero, stp_more _ _ 1 _ (by decide), stp_more _ _ _ _ (by decide), stp_more _ _ _ _ (by decide), stp_more _ _ _ _ (by decide), stp_more _ _ _ _ (by decide), stp_more _ _ _ _ (by decide), stp_more _ _ _ _ (by decide)]
  simp
  omega
theorem bitsOf_split (n : Nat) : bitsOf n 16 = bitsOf (n % 256) 8 ++ bitsOf (n / 256) 8 := by
  have e : ∀ m, bitsOf m 8 = [m / 2 ^ 0 % 2, m / 2 ^ 1 % 2, m / 2 ^ 2 % 2, m / 2 ^ 3 % 2, m / 2 ^ 4 % 2, m / 2 ^ 5 % 2, m / 2 ^ 6 % 2, m / 2 ^ 7 % 2] := fun _ => rfl
  have e2 : bitsOf n 16 = [n / 2 ^ 0 % 2, n / 2 ^ 1 % 2, n / 2 ^ 2 % 2, n / 2 ^ 3 % 2, n / 2 ^ 4 % 2, n / 2 ^ 5 % 2, n / 2 ^ 6 % 2, n / 2 ^ 7 % 2, n / 2 ^ 8 % 2, n / 2 ^ 9 % 2, n / 2 ^ 10 % 2, n / 2 ^ 11 % 2, n / 2 ^ 12 % 2, n / 2 ^ 13 % 2, n / 2 ^ 14 % 2, n / 2 ^ 15 % 2] := rfl
  rw [e, e, e2]
  simp
  omega
theorem puts16 (bs : List Nat) (n : Nat) (hn : n < 65536) : puts (bs, 0) (bitsOf n 16) = (bs ++ [n % 256] ++ [n / 256], 0) := by
  rw [bitsOf_split, puts_append, puts8 _ _ (by omega), puts8 _ _ (by omega)]
theorem puts_head : puts (puts (puts ([], 0) (bitsOf 1 1)) (bitsOf 0 2)) (bitsOf 0 5) = ([1], 0) := by decide

set_option maxHeartbeats 1000000 in
theorem putHead_any (W : World) (S : Nat) (hs : Sink W S [] 0) :
    Calls Tryz.prog 77 #[.iface 91 (.pointer (some ⟨S, 0, none⟩)), .int .i64 0] W fun e w' => e = .returned (.tuple #[]) ∧ Sink w' S (puts (puts ([], 0) (bitsOf 1 1)) (bitsOf 0 2)).1 (puts (puts ([], 0) (bitsOf 1 1)) (bitsOf 0 2)).2 ∧ Below S W w' := by
  have f0 : Fine ([], 0) := ⟨by decide, by simp, fun h => absurd rfl h⟩
  have HC1 : Hid (∀ W', Sink W' S [] 0 → Calls Tryz.prog 78 #[.iface 91 (.pointer (some ⟨S, 0, none⟩)), .int .i64 1, .int .i64 1] W' fun e w' => e = .returned (.tuple #[]) ∧ Sink w' S (puts ([], 0) (bitsOf 1 1)).1 (puts ([], 0) (bitsOf 1 1)).2 ∧ Below S W' w') :=
    fun W' h => putNumber_any W' S ([], 0) 1 1 (by omega) (by omega) (by simp) f0 h
  have HC2 : Hid (∀ W', Sink W' S (puts ([], 0) (bitsOf 1 1)).1 (puts ([], 0) (bitsOf 1 1)).2 → Calls Tryz.prog 78 #[.iface 91 (.pointer (some ⟨S, 0, none⟩)), .int .i64 0, .int .i64 2] W' fun e w' => e = .returned (.tuple #[]) ∧ Sink w' S (puts (puts ([], 0) (bitsOf 1 1)) (bitsOf 0 2)).1 (puts (puts ([], 0) (bitsOf 1 1)) (bitsOf 0 2)).2 ∧ Below S W' w') :=
    fun W' h => putNumber_any W' S (puts ([], 0) (bitsOf 1 1)) 0 2 (by omega) (by omega) (by decide) (puts_fine _ _ _ f0) h
  have HS : Hid (Sink W S [] 0) := hs
  clear hs f0
  generalize puts (puts ([], 0) (bitsOf 1 1)) (bitsOf 0 2) = s2 at *
  generalize puts ([], 0) (bitsOf 1 1) = s1 at *
  go_enter Tryz.func77, Tryz.ntmps77
  go_wp2_with fail
  refine Calls.mono (HC1.out _ HS.out) ?_
  rintro e w1 ⟨rfl, h1, h2⟩
  have HS1 : Hid (Sink w1 S s1.1 s1.2) := h1
  have HB1 : Hid (Below S W w1) := h2
  clear h1 h2
  go_wp2_with fail
  refine Calls.mono (HC2.out _ HS1.out) ?_
  rintro e w2 ⟨rfl, h1, h2⟩
  have HS2 : Hid (Sink w2 S s2.1 s2.2) := h1
  have HB2 : Hid (Below S W w2) := HB1.out.trans h2
  clear h1 h2
  go_wp2
  go_returns
  exact ⟨rfl, HS2.out, HB2.out⟩
end Go.Proofs.YtaeicgfebeliiaaGreatDoor
