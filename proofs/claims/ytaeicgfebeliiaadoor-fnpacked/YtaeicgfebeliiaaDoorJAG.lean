/-
  Lists of bytes that lie in a block of their own, and what leaves them as they are; each theorem names its conditions.
  What the specification's reader of choices (l1Cur) answers: some number within bounds, and nothing that was there ahead of it is written; each theorem names its conditions.
  The program's source of bits: what it holds and what it tells; each theorem names its conditions.
  Of what was there nothing but the reader's block is written; each theorem names its conditions.
-/
import Derived.Test.YtaeicgfebeliiaaDoorJAA
import Derived.ShutString
import Derived.ChangeOld
import Derived.Laws.Bits64b
import Derived.Laws.Externs
import Derived.Laws.Pointers
import Derived.StillTactics
import Derived.BigRegion
import Derived.Test.YtaeicgfebeliiaaDoorJAF
import Derived.Deep.RegionWith
namespace Go.Proofs.YtaeicgfebeliiaaDoor
open Go.ChangeShapes Go.WideShapes Go.ChangeAt Go.RowKit
set_option linter.unusedVariables false

/-- Nothing but the block B has changed. -/
structure Sel (B : Nat) (w w' : World) : Prop where
  os : w'.os = w.os
  tape : w'.tape = w.tape
  output : w'.output = w.output
  size : w'.heap.size = w.heap.size
  block : ∀ k, k ≠ B → w'.heap[k]? = w.heap[k]?
theorem Sel.refl (B : Nat) (w : World) : Sel B w w := ⟨rfl, rfl, rfl, rfl, fun _ _ => rfl⟩
theorem Sel.trans {B : Nat} {a b c : World} (h : Sel B a b) (k : Sel B b c) : Sel B a c :=
  ⟨k.os.trans h.os, k.tape.trans h.tape, k.output.trans h.output, k.size.trans h.size, fun i hi => (k.block i hi).trans (h.block i hi)⟩
theorem Sel.setCell {B : Nat} {a b : World} (h : Sel B a b) (o : Nat) (u : Value) : Sel B a (b.setCell ⟨B, o, none⟩ u) :=
  h.trans ⟨rfl, rfl, rfl, by simp [World.setCell], fun k hk => Below.heap_setCell _ _ _ _ (by simpa using hk)⟩
theorem Sel.below {B : Nat} {a b : World} (h : Sel B a b) : Below B a b := ⟨h.os, h.tape, h.output, by have := h.size; omega, fun k hk => h.block k (by omega)⟩

/-- The numbers zs lie in the block b, which may be written. -/
def At (w : World) (b : Nat) (zs : List Int) : Prop :=
  b < w.heap.size ∧ (∀ i, i < zs.length → w.cell? ⟨b, 0 + i, none⟩ = some (.int .u8 (zs.getD i 0))) ∧ ∀ o, w.frozen? ⟨b, o, none⟩ = false
/-- Nothing that was there is written. -/
def Nw (w w' : World) : Prop := Below w.heap.size w w'
theorem Nw.trans {a b c : World} (h : Nw a b) (k : Nw b c) : Nw a c := Below.trans h (Below.mono k (Below.size h))
theorem Kp.nw {a b : World} (h : Kp a b) : Nw a b := h.1
theorem At.nw {w w' : World} {b : Nat} {zs : List Int} (h : At w b zs) (k : Nw w w') : At w' b zs :=
  ⟨Nat.lt_of_lt_of_le h.1 (Below.size k), fun i hi => (Below.cell k (p := ⟨b, 0 + i, none⟩) h.1).trans (h.2.1 i hi), fun o => (Below.frozen k (p := ⟨b, o, none⟩) h.1).trans (h.2.2 o)⟩
theorem At.sel {w w' : World} {b B : Nat} {zs : List Int} (h : At w b zs) (k : Sel B w w') (hne : b ≠ B) : At w' b zs :=
  ⟨by rw [k.size]; exact h.1, fun i hi => (World.cell?_of_block (w := w) (a := ⟨b, 0 + i, none⟩) (k.block b hne)).trans (h.2.1 i hi), fun o => (World.frozen?_of_block (w := w) (a := ⟨b, o, none⟩) (k.block b hne)).trans (h.2.2 o)⟩
def ints (bs : List Nat) : List Int := bs.map (fun b : Nat => (b : Int))
theorem ints_len (bs : List Nat) : (ints bs).length = bs.length := by simp [ints]
theorem ints_get (bs : List Nat) (i : Nat) : (ints bs).getD i 0 = ((bs.getD i 0 : Nat) : Int) := by
  by_cases h : i < bs.length
  · simp [ints, h]
  · rw [List.getD_eq_getElem?_getD, List.getD_eq_getElem?_getD, List.getElem?_eq_none (by rw [ints_len]; omega), List.getElem?_eq_none (by omega)]; rfl
theorem At.alloc (w : World) (zs : List Int) (t : TypeId) : At (w.alloc (.cells (cellsOf .u8 zs) t)) w.heap.size zs := by
  refine ⟨by simp, fun i hi => ?_, fun o => World.frozen?_alloc_at _ _ _ _ rfl⟩
  have := cellsOf_get .u8 zs i hi
  simp [this]
theorem At.row {w : World} {b : Nat} {zs : List Int} (h : At w b zs) : Row .u8 w (some ⟨b, 0, none⟩) zs := Or.inr ⟨b, 0, rfl, h.1, h.2.1⟩
theorem Row.below {k : IntKind} {w w' : World} {a : Option Addr} {zs : List Int} (h : Row k w a zs) (hk : Below w.heap.size w w') : Row k w' a zs := by
  rcases h with h | ⟨b, off, rfl, hb, hc⟩
  · exact Or.inl h
  · exact Or.inr ⟨b, off, rfl, Nat.lt_of_lt_of_le hb hk.size, fun i hi => (hk.cell (p := ⟨b, off + i, none⟩) hb).trans (hc i hi)⟩

end Go.Proofs.YtaeicgfebeliiaaDoor
namespace Go.Proofs.YtaeicgfebeliiaaDoor
open Go.ChangeShapes Go.WideShapes Go.ChangeAt Go.RowKit
set_option linter.unusedVariables false

theorem Sel.drew {B : Nat} {a b : World} (h : Sel B a b) : Sel B a b.drew := ⟨h.os, h.tape, h.output, h.size, h.block⟩
theorem Sel.cell {B : Nat} {w w' : World} (h : Sel B w w') {p : Addr} (hp : p.block ≠ B) : w'.cell? p = w.cell? p := World.cell?_of_block (w := w) (h.block p.block hp)

/-- The bytes that a reader reads lie below B. -/
def Code (w : World) (B : Nat) (ca : Option Addr) (len : Nat) : Prop :=
  len = 0 ∨ ∃ b off, ca = some ⟨b, off, none⟩ ∧ b < B ∧ ∀ i, i < len → ∃ v : Int, 0 ≤ v ∧ v ≤ 255 ∧ w.cell? ⟨b, off + i, none⟩ = some (.int .u8 v)
/-- A reader in the block B. -/
def Cur (w : World) (B : Nat) (ca : Option Addr) (len cap : Nat) (n : Nat) : Prop :=
  ∃ (k : Nat) (sd : Int), k ≤ n ∧ 0 ≤ sd ∧ sd < 18446744073709551616 ∧ w.cell? ⟨B, 0, none⟩ = some (.slice ca len cap) ∧ w.cell? ⟨B, 1, none⟩ = some (.int .i64 (k : Int)) ∧ w.cell? ⟨B, 2, none⟩ = some (.int .u64 sd) ∧ (∀ o, w.frozen? ⟨B, o, none⟩ = false) ∧ B < w.heap.size

theorem and_byte (a : Int) (h0 : 0 ≤ a) (h : a < 18446744073709551616) : bits .and .u64 a 255 = a % 256 := by
  obtain ⟨x, rfl⟩ := Int.eq_ofNat_of_zero_le h0
  have e := bits_and_u64_nat x 255 (by omega) (by omega)
  have e2 : x &&& 255 = x % 256 := Nat.and_two_pow_sub_one_eq_mod x 8
  rw [e2] at e
  exact e

theorem cur_set (w : World) (B : Nat) (ca : Option Addr) (len cap n k : Nat) (sd S : Int) (hk : k ≤ n) (S0 : 0 ≤ S) (S1 : S < 18446744073709551616) (c0 : w.cell? ⟨B, 0, none⟩ = some (.slice ca len cap)) (c1 : w.cell? ⟨B, 1, none⟩ = some (.int .i64 (k : Int))) (c2 : w.cell? ⟨B, 2, none⟩ = some (.int .u64 sd)) (hf : ∀ o, w.frozen? ⟨B, o, none⟩ = false) (hB : B < w.heap.size) :
    Cur ((w.setCell ⟨B, 1, none⟩ (.int .i64 ((k : Int) + 1))).setCell ⟨B, 2, none⟩ (.int .u64 S)) B ca len cap (n + 1) ∧ Sel B w ((w.setCell ⟨B, 1, none⟩ (.int .i64 ((k : Int) + 1))).setCell ⟨B, 2, none⟩ (.int .u64 S)) := by
  refine ⟨⟨k + 1, S, by omega, S0, S1, ?_, ?_, ?_, ?_, by simpa [World.setCell] using hB⟩, ((Sel.refl B w).setCell _ _).setCell _ _⟩
  · rw [World.cell?_setCell_other _ _ _ _ (by simp), World.cell?_setCell_other _ _ _ _ (by simp)]; exact c0
  · rw [World.cell?_setCell_other _ _ _ _ (by simp)]
    rw [World.cell?_setCell_same (u := .int .i64 (k : Int)) (h := c1)]; rfl
  · apply World.cell?_setCell_same (u := .int .u64 sd)
    rw [World.cell?_setCell_other _ _ _ _ (by simp)]; exact c2
  · intro o; rw [World.frozen?_setCell, World.frozen?_setCell]; exact hf o

theorem wrap_bd (x : Int) : 0 ≤ IntKind.u64.wrap x ∧ IntKind.u64.wrap x < 18446744073709551616 := by rw [IntKind.wrap_u64]; omega

theorem seed_bd (X : Int) : 0 ≤ wrap64 (bits .and .u64 (IntKind.u64.wrap X / 1099511627776) 255) ∧ wrap64 (bits .and .u64 (IntKind.u64.wrap X / 1099511627776) 255) ≤ 255 := by
  have h := wrap_bd X
  rw [and_byte _ (by omega) (by omega)]
  generalize IntKind.u64.wrap X = Y at *
  rw [IntWalk.wrap64_in _ ⟨by omega, by omega⟩]
  omega

set_option maxHeartbeats 1000000 in
theorem next_any (w : World) (B : Nat) (ca : Option Addr) (len cap n : Nat) (hl : len ≤ 9223372036854775807) (hn : n ≤ 1099511627776) (hc : Cur w B ca len cap n) (hd : Code w B ca len) :
    Calls Tryd.prog 67 #[.pointer (some ⟨B, 0, none⟩)] w fun e w' => ∃ v : Int, e = .returned (.int .i64 v) ∧ 0 ≤ v ∧ v ≤ 255 ∧ Cur w' B ca len cap (n + 1) ∧ Sel B w w' := by
  obtain ⟨k, sd, hk, s0, s1, c0, c1, c2, hf, hB⟩ := hc
  by_cases hlt : k < len
  · rcases hd with h | ⟨b, off, rfl, hb, hcs⟩
    · exact absurd hlt (by omega)
    · obtain ⟨v, v0, v1, hv⟩ := hcs k hlt
      clear hcs
      have HC := fun S S0 S1 => Hid.out (cur_set w B (some ⟨b, off, none⟩) len cap n k sd S hk S0 S1 c0 c1 c2 hf hB)
      have HC' : Hid _ := HC
      clear HC
      go_enter Tryd.func67, Tryd.ntmps67
      go_wp2
      go_region
      go_wp2
      go_region
      go_wp2
      go_region
      go_wp2
      go_ret
      exact ⟨v, rfl, v0, v1, (HC'.out _ (wrap_bd _).1 (wrap_bd _).2).1, (HC'.out _ (wrap_bd _).1 (wrap_bd _).2).2.drew.drew.drew⟩
  · have HC := fun S S0 S1 => Hid.out (cur_set w B ca len cap n k sd S hk S0 S1 c0 c1 c2 hf hB)
    have HC' : Hid _ := HC
    clear HC
    go_enter Tryd.func67, Tryd.ntmps67
    go_wp2
    go_region
    go_wp2
    go_region
    go_wp2
    go_ret
    exact ⟨_, rfl, (seed_bd _).1, (seed_bd _).2, (HC'.out _ (wrap_bd _).1 (wrap_bd _).2).1, (HC'.out _ (wrap_bd _).1 (wrap_bd _).2).2.drew.drew⟩

theorem Code.below {w w1 : World} {B : Nat} {ca : Option Addr} {len : Nat} (h : Code w B ca len) (hb : Below B w w1) : Code w1 B ca len := by
  rcases h with h | ⟨b, off, h1, h2, h3⟩
  · exact Or.inl h
  · refine Or.inr ⟨b, off, h1, h2, fun i hi => ?_⟩
    obtain ⟨v, v0, v1, hv⟩ := h3 i hi
    exact ⟨v, v0, v1, by rw [hb.cell (p := ⟨b, off + i, none⟩) h2]; exact hv⟩
theorem Cur.mono {w : World} {B : Nat} {ca : Option Addr} {len cap n m : Nat} (h : Cur w B ca len cap n) (hm : n ≤ m) : Cur w B ca len cap m := by
  obtain ⟨k, sd, h1, h2⟩ := h
  exact ⟨k, sd, by omega, h2⟩

set_option maxHeartbeats 1000000 in
theorem pick_any (w : World) (B : Nat) (ca : Option Addr) (len cap n : Nat) (m : Int) (hl : len ≤ 9223372036854775807) (hn : n ≤ 1000000000) (m1 : 1 ≤ m) (m2 : m ≤ 1000000) (hc : Cur w B ca len cap n) (hd : Code w B ca len) :
    Calls Tryd.prog 66 #[.pointer (some ⟨B, 0, none⟩), .int .i64 m] w fun e w' => ∃ v : Int, e = .returned (.int .i64 v) ∧ 0 ≤ v ∧ v < m ∧ Cur w' B ca len cap (n + 2) ∧ Sel B w w' := by
  have HC : Hid _ := hc
  have HD : Hid _ := hd
  clear hc hd
  by_cases h1 : m = 1
  · subst h1
    go_enter Tryd.func66, Tryd.ntmps66
    go_wp2
    go_ret
    exact ⟨0, rfl, by omega, by omega, Cur.mono HC.out (by omega), Sel.refl _ _⟩
  have d1 : decide (m ≤ 1) = false := decide_eq_false (by omega)
  by_cases h2 : m ≤ 200
  · go_enter Tryd.func66, Tryd.ntmps66
    go_wp2_with fail
    refine (next_any w B ca len cap n hl (by omega) HC.out HD.out).mono ?_
    rintro e w1 ⟨v, rfl, v0, v1, hc1, hb1⟩
    have HC1 : Hid _ := hc1
    have HB1 : Hid _ := hb1
    clear hc1 hb1
    have x1 := Int.emod_nonneg v (b := m) (by omega)
    have x2 := Int.emod_lt_of_pos v (b := m) (by omega)
    go_wp2
    go_ret
    exact ⟨v % m, rfl, x1, x2, Cur.mono HC1.out (by omega), HB1.out⟩
  · go_enter Tryd.func66, Tryd.ntmps66
    go_wp2_with fail
    refine (next_any w B ca len cap n hl (by omega) HC.out HD.out).mono ?_
    rintro e w1 ⟨v, rfl, v0, v1, hc1, hb1⟩
    have HC1 : Hid _ := hc1
    have HB1 : Hid _ := hb1
    clear hc1 hb1
    go_wp2_with fail
    refine (next_any w1 B ca len cap (n + 1) hl (by omega) HC1.out (Code.below HD.out (Sel.below HB1.out))).mono ?_
    rintro e w2 ⟨u, rfl, u0, u1, hc2, hb2⟩
    have HC2 : Hid _ := hc2
    have HB2 : Hid _ := hb2
    clear hc2 hb2
    have x1 := Int.emod_nonneg (v * 256 + u) (b := m) (by omega)
    have x2 := Int.emod_lt_of_pos (v * 256 + u) (b := m) (by omega)
    go_wp2
    go_ret
    exact ⟨(v * 256 + u) % m, rfl, x1, x2, HC2.out, Sel.trans HB1.out HB2.out⟩

set_option maxHeartbeats 1000000 in
theorem one_any (w : World) (B : Nat) (ca : Option Addr) (len cap n : Nat) (m : Int) (hl : len ≤ 9223372036854775807) (hn : n ≤ 1000000000) (m1 : 1 ≤ m) (m2 : m ≤ 1000000) (hc : Cur w B ca len cap n) (hd : Code w B ca len) :
    Calls Tryd.prog 70 #[.pointer (some ⟨B, 0, none⟩), .int .i64 m] w fun e w' => ∃ v : Bool, e = .returned (.bool v) ∧ Cur w' B ca len cap (n + 2) ∧ Sel B w w' := by
  have HC : Hid _ := hc
  have HD : Hid _ := hd
  clear hc hd
  go_enter Tryd.func70, Tryd.ntmps70
  go_wp2_with fail
  refine (pick_any w B ca len cap n m hl hn m1 m2 HC.out HD.out).mono ?_
  rintro e w1 ⟨v, rfl, v0, v1, hc1, hb1⟩
  have HC1 : Hid _ := hc1
  have HB1 : Hid _ := hb1
  clear hc1 hb1
  go_wp2
  go_ret
  exact ⟨_, rfl, HC1.out, HB1.out⟩
theorem Cur.alloc {w : World} {B : Nat} {ca : Option Addr} {len cap n : Nat} (h : Cur w B ca len cap n) (c : Array Value) (t : TypeId) : Cur (w.alloc (.cells c t)) B ca len cap n := by
  obtain ⟨k, sd, h1, h2, h3, h4, h5, h6, h7, h8⟩ := h
  refine ⟨k, sd, h1, h2, h3, ?_, ?_, ?_, ?_, by simp; omega⟩
  · rw [World.cell?_alloc_past _ _ _ h8]; exact h4
  · rw [World.cell?_alloc_past _ _ _ h8]; exact h5
  · rw [World.cell?_alloc_past _ _ _ h8]; exact h6
  · intro o; rw [frozen?_alloc_cells]; exact h7 o
theorem Code.alloc {w : World} {B : Nat} {ca : Option Addr} {len : Nat} (h : Code w B ca len) (hB : B ≤ w.heap.size) (o : Obj) : Code (w.alloc o) B ca len :=
  Code.below h ((Below.refl B w).alloc hB o)
theorem Cur.lt {w : World} {B : Nat} {ca : Option Addr} {len cap n : Nat} (h : Cur w B ca len cap n) : B < w.heap.size := by
  obtain ⟨_, _, _, _, _, _, _, _, _, h⟩ := h; exact h
end Go.Proofs.YtaeicgfebeliiaaDoor
namespace Go.Proofs.YtaeicgfebeliiaaDoor
open Go.ChangeShapes Go.WideShapes Go.ChangeAt Go.RowKit
set_option linter.unusedVariables false

/-- The source in the block S reads the bytes ds, of whose bits t are taken. -/
structure Src (w : World) (S b cap : Nat) (ds : List Nat) (t : Nat) : Prop where
  c0 : w.cell? ⟨S, 0, none⟩ = some (.slice (some ⟨b, 0, none⟩) ds.length cap)
  c1 : w.cell? ⟨S, 1, none⟩ = some (.int .i64 t)
  fr : ∀ o, w.frozen? ⟨S, o, none⟩ = false
  ne : b ≠ S
  dat : ∀ i, i < ds.length → w.cell? ⟨b, i, none⟩ = some (.int .u8 ((ds.getD i 0 : Nat) : Int))
theorem Src.lt {w : World} {S b cap : Nat} {ds : List Nat} {t : Nat} (h : Src w S b cap ds t) : S < w.heap.size := World.block_lt_of_cell? w ⟨S, 0, none⟩ h.c0
theorem Src.set {w : World} {S b cap : Nat} {ds : List Nat} {t : Nat} (h : Src w S b cap ds t) (t' : Nat) : Src (w.setCell ⟨S, 1, none⟩ (.int .i64 (t' : Int))) S b cap ds t' :=
  ⟨(World.cell?_setCell_other _ _ _ _ (fun e => by injection e; omega)).trans h.c0, World.cell?_setCell_same w ⟨S, 1, none⟩ _ h.c1, fun o => by rw [World.frozen?_setCell]; exact h.fr o, h.ne, fun i hi => (World.cell?_setCell_other _ _ _ _ (fun e => by injection e with e1; exact h.ne e1.symm)).trans (h.dat i hi)⟩
theorem Src.drew {w : World} {S b cap : Nat} {ds : List Nat} {t : Nat} (h : Src w S b cap ds t) (n : Nat) : Src (w.drewN n) S b cap ds t := ⟨h.c0, h.c1, h.fr, h.ne, h.dat⟩
theorem and_oneU (a : Nat) (ha : a < 256) : bits .and .i64 (a : Int) 1 = ((a % 2 : Nat) : Int) := by
  have h := (bits_nat .i64 63 (by decide) (fun n h0 h2 => by rw [IntKind.wrap_i64]; omega) a 1 (by omega) (by omega)).1
  have e : ((1 : Nat) : Int) = 1 := rfl
  rw [e] at h
  rw [h, Nat.and_one_is_mod]
set_option maxHeartbeats 2000000 in
theorem takeBit_any (w : World) (S b cap : Nat) (ds : List Nat) (t : Nat) (hl : ds.length ≤ 100000) (h8 : ∀ d ∈ ds, d < 256) (hs : Src w S b cap ds t) (ht : t < 8 * ds.length) :
    Calls Tryd.prog 136 #[.pointer (some ⟨S, 0, none⟩)] w fun e w' => e = .returned (.tuple #[.int .i64 (btA ds t), .bool true]) ∧ ∃ n, w' = (w.setCell ⟨S, 1, none⟩ (.int .i64 ((t + 1 : Nat) : Int))).drewN n := by
  have e0 := hs.c0
  have e1 := hs.c1
  have hf := hs.fr 1
  obtain ⟨q, hqn⟩ : ∃ q, t / 8 = q := ⟨_, rfl⟩
  obtain ⟨r, hrn⟩ : ∃ r, t % 8 = r := ⟨_, rfl⟩
  have hql : q < ds.length := by omega
  have hd := hs.dat q hql
  have hb : ds.getD q 0 < 256 := by
    rw [List.getD_eq_getElem?_getD, List.getElem?_eq_getElem hql]
    exact h8 _ (List.getElem_mem _)
  have hBT : Hid (btA ds t = ds.getD q 0 / 2 ^ r % 2) := by show _ = _; unfold btA; rw [hqn, hrn]
  obtain ⟨D, hD⟩ : ∃ D, ds.getD q 0 = D := ⟨_, rfl⟩
  rw [hD] at hd hb hBT
  have hq : (t : Int) / 8 = (q : Int) := by omega
  have hr : (t : Int) % 8 = (r : Int) := by omega
  have hr8 : r < 8 := by omega
  have hz : ((t : Int) == 8 * (ds.length : Int)) = false := by rw [beq_eq_false_iff_ne]; omega
  have hv : bits .and .i64 (wrap64 ((D : Int) / 2 ^ r)) 1 = ((btA ds t : Nat) : Int) := by
    have e : ((D : Int) / 2 ^ r) = ((D / 2 ^ r : Nat) : Int) := by simp
    have hle : D / 2 ^ r ≤ D := Nat.div_le_self _ _
    rw [hBT.out, e]
    generalize D / 2 ^ r = x at *
    rw [IntWalk.wrap64_in _ ⟨by omega, by omega⟩, and_oneU _ (by omega)]
  have HV : Hid _ := hv
  clear hs h8 hD hqn hrn hv hBT
  go_enter Tryd.func136, Tryd.ntmps136
  go_wp2
  go_region
  go_wp2
  go_region
  go_wp2
  go_returns
  exact ⟨by rw [HV.out]; rfl, 2, rfl⟩
end Go.Proofs.YtaeicgfebeliiaaDoor
namespace Go.Proofs.YtaeicgfebeliiaaDoor
open Go.ChangeShapes Go.WideShapes Go.ChangeAt Go.RowKit
set_option linter.unusedVariables false

/-- Of what was there nothing but the block B is written. -/
def Gr (B : Nat) (w w' : World) : Prop := w.grownBy w' (some B)
theorem Gr.refl (B : Nat) (w : World) : Gr B w w := ⟨rfl, rfl, rfl, Nat.le_refl _, fun _ _ _ => rfl⟩
theorem Gr.size {B : Nat} {a b : World} (h : Gr B a b) : a.heap.size ≤ b.heap.size := World.grownBy.size h
theorem Gr.trans {B : Nat} {a b c : World} (h : Gr B a b) (k : Gr B b c) : Gr B a c :=
  ⟨(World.grownBy.os k).trans (World.grownBy.os h), (World.grownBy.tape k).trans (World.grownBy.tape h), (World.grownBy.output k).trans (World.grownBy.output h), Nat.le_trans h.size k.size,
   fun i hi hne => (World.grownBy.block k i (Nat.lt_of_lt_of_le hi h.size) hne).trans (World.grownBy.block h i hi hne)⟩
theorem Gr.of_sel {B : Nat} {a b : World} (h : Sel B a b) : Gr B a b :=
  ⟨h.os, h.tape, h.output, by rw [h.size]; exact Nat.le_refl _, fun i _ hne => h.block i (fun e => hne (by rw [e]))⟩
theorem Gr.of_nw {B : Nat} {a b : World} (h : Nw a b) : Gr B a b := ⟨Below.os h, Below.tape h, Below.output h, Below.size h, fun i hi _ => Below.block h i hi⟩
theorem Gr.alloc {B : Nat} {a b : World} (h : Gr B a b) (o : Obj) : Gr B a (b.alloc o) := h.trans (Gr.of_nw ((Below.refl _ _).alloc (Nat.le_refl _) _))
theorem Gr.set {B : Nat} {a b : World} (h : Gr B a b) {g : Nat} (hg : a.heap.size ≤ g) (o : Nat) (v : Value) : Gr B a (b.setCell ⟨g, o, none⟩ v) := by
  have h' : a.grownBy b (some B) := h
  exact ⟨h'.os, h'.tape, h'.output, by simpa [World.setCell] using h.size, fun i hi hne => by
    rw [Below.heap_setCell _ _ _ _ (by show i ≠ g; omega)]
    exact h'.block i hi hne⟩
theorem Gr.cell {B : Nat} {a b : World} (h : Gr B a b) {g : Nat} (hg : g < a.heap.size) (hne : g ≠ B) (o : Nat) : b.cell? ⟨g, o, none⟩ = a.cell? ⟨g, o, none⟩ :=
  World.cell?_of_block (w := a) (a := ⟨g, o, none⟩) (World.grownBy.block h g hg (fun e => hne (Option.some.inj e)))
theorem Gr.frozen {B : Nat} {a b : World} (h : Gr B a b) {g : Nat} (hg : g < a.heap.size) (hne : g ≠ B) (o : Nat) : b.frozen? ⟨g, o, none⟩ = a.frozen? ⟨g, o, none⟩ :=
  World.frozen?_of_block (w := a) (a := ⟨g, o, none⟩) (World.grownBy.block h g hg (fun e => hne (Option.some.inj e)))
theorem Gr.below {B : Nat} {a b : World} (h : Gr B a b) (hB : B ≤ a.heap.size) : Below B a b :=
  ⟨World.grownBy.os h, World.grownBy.tape h, World.grownBy.output h, h.size, fun i hi => World.grownBy.block h i (by omega) (fun e => by have := Option.some.inj e; omega)⟩
theorem Cur.set {w : World} {B : Nat} {ca : Option Addr} {len cap n : Nat} (h : Cur w B ca len cap n) {g : Nat} (hg : g ≠ B) (o : Nat) (v : Value) : Cur (w.setCell ⟨g, o, none⟩ v) B ca len cap n := by
  obtain ⟨k, sd, h1, h2, h3, c0, c1, c2, hf, hB⟩ := h
  have e : ∀ o', (w.setCell ⟨g, o, none⟩ v).cell? ⟨B, o', none⟩ = w.cell? ⟨B, o', none⟩ := fun o' => World.cell?_setCell_other _ _ _ _ (fun e => by injection e; omega)
  exact ⟨k, sd, h1, h2, h3, (e _).trans c0, (e _).trans c1, (e _).trans c2, fun o' => by rw [World.frozen?_setCell]; exact hf o', by simpa [World.setCell] using hB⟩
end Go.Proofs.YtaeicgfebeliiaaDoor
