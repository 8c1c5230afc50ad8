/-
  The bits of a block of the fixed codes, a step a piece: what is read of each; pure facts; each theorem names its conditions.
  The program's source of bits: what it holds and what it tells; each theorem names its conditions.
  The program's source of bits: numbers; each theorem names its conditions.
  The program's source of bits: whole bytes; a symbol found by its code; each theorem names its conditions.
-/
import Derived.Test.YtaeicgfebeliiaaGreatDoorJAF
import Derived.Test.YtaeicgfebeliiaaGreatDoorJAH
import Derived.Deep.RegionWith
import Derived.Test.YtaeicgfebeliiaaGreatDoorJAB
import Derived.Test.YtaeicgfebeliiaaGreatDoorJAG
import Derived.Deep.DeepCutAuto
namespace Go.Proofs.YtaeicgfebeliiaaGreatDoor
open Go.ChangeShapes Go.WideShapes Go.ChangeAt Go.RowKit
set_option linter.unusedVariables false

theorem fc_pow_all : (List.range 288).all (fun k => decide (fc k < 2 ^ fn k)) = true := by decide +kernel
theorem fc_pow (k : Nat) (h : k < 288) : fc k < 2 ^ fn k := of_decide_eq_true (List.all_eq_true.1 fc_pow_all k (List.mem_range.2 h))
theorem cnF_le (l : Nat) : cnF l ≤ 300 := by
  unfold cnF
  split
  · omega
  · split
    · omega
    · split <;> omega
theorem cnD_le (l : Nat) : cnD l ≤ 300 := by
  unfold cnD
  split <;> omega
theorem Bks.lit {zs : List Int} {J : Nat} {ds : List Nat} (h : Bks zs J ds) (j : Nat) (hj : j < J) (hm : mtA zs (pos zs j) = 0) (x : Nat) (hx : zs.getD (pos zs j) 0 = (x : Int)) :
    (acc zs (j + 1)).length = (acc zs j).length + fn x ∧ (acc zs j).length + fn x ≤ 8 * ds.length ∧ ∀ i, i < fn x → btA ds ((acc zs j).length + i) = (codeOf (fc x) (fn x)).getD i 0 := by
  obtain ⟨h1, h2⟩ := h.step j hj
  have e : stepB zs (pos zs j) = codeOf (fc x) (fn x) := by unfold stepB; rw [if_pos hm, hx, Int.toNat_natCast]
  have e1 : (acc zs (j + 1)).length = (acc zs j).length + fn x := by
    show (acc zs j ++ stepB zs (pos zs j)).length = _
    rw [List.length_append, e, codeOf_len]
  have hr := h.room
  rw [e, codeOf_len] at h2
  exact ⟨e1, by omega, h2⟩
theorem Bks.mat {zs : List Int} {J : Nat} {ds : List Nat} (h : Bks zs J ds) (hl : zs.length ≤ 6000) (j : Nat) (hj : j < J) (hp : pos zs j ≤ zs.length) (n f : Nat) (hm : mtA zs (pos zs j) ≠ 0) (hn : mtA zs (pos zs j) = n) (hf : mtB zs (pos zs j) = f) :
    (acc zs (j + 1)).length = (acc zs j).length + fn (257 + lp n) + LE (lp n) + 5 + DE (dp f) ∧ (acc zs j).length + fn (257 + lp n) + LE (lp n) + 5 + DE (dp f) ≤ 8 * ds.length
    ∧ (∀ i, i < fn (257 + lp n) → btA ds ((acc zs j).length + i) = (codeOf (fc (257 + lp n)) (fn (257 + lp n))).getD i 0)
    ∧ LB (lp n) + rdN ds ((acc zs j).length + fn (257 + lp n)) (LE (lp n)) = n
    ∧ (∀ i, i < 5 → btA ds ((acc zs j).length + fn (257 + lp n) + LE (lp n) + i) = (codeOf (dp f) 5).getD i 0)
    ∧ DB (dp f) + rdN ds ((acc zs j).length + fn (257 + lp n) + LE (lp n) + 5) (DE (dp f)) = f := by
  obtain ⟨h1, h2⟩ := h.step j hj
  rcases mt_bd zs (pos zs j) hp with e0 | ⟨b1, b2, b3, b4, b5⟩
  · exact absurd e0 hm
  have e : stepB zs (pos zs j) = codeOf (fc (257 + lp n)) (fn (257 + lp n)) ++ bitsOf (n - LB (lp n)) (LE (lp n)) ++ codeOf (dp f) 5 ++ bitsOf (f - DB (dp f)) (DE (dp f)) := by unfold stepB; rw [if_neg hm, hn, hf]
  rw [hn] at b1 b2 b3
  rw [hf] at b4 b5
  obtain ⟨m1, m2, m3⟩ := lp_more n b1 b2
  obtain ⟨d1, d2, d3⟩ := dp_more f b4 (by omega)
  have e1 : (acc zs (j + 1)).length = (acc zs j).length + fn (257 + lp n) + LE (lp n) + 5 + DE (dp f) := by
    show (acc zs j ++ stepB zs (pos zs j)).length = _
    rw [e]
    simp only [List.length_append, codeOf_len, bitsOf_len]
    omega
  have hr := h.room
  rw [e] at h2
  obtain ⟨q1, q2, q3, q4⟩ := Bks.four h2
  simp only [codeOf_len, bitsOf_len] at q1 q2 q3 q4
  refine ⟨e1, by omega, q1, ?_, q3, ?_⟩
  · rw [rdN_bits ds _ (n - LB (lp n)) _ q2, Nat.mod_eq_of_lt m2]; omega
  · rw [rdN_bits ds _ (f - DB (dp f)) _ q4, Nat.mod_eq_of_lt d2]; omega
/-- What was repeated is what is there. -/
theorem mat_take {zs : List Int} {J : Nat} (hJ : Ends zs J) (j : Nat) (hj : j < J) (hm : mtA zs (pos zs j) ≠ 0) : rep (zs.take (pos zs j)) (mtB zs (pos zs j)) (mtA zs (pos zs j)) = zs.take (pos zs (j + 1)) ∧ pos zs (j + 1) = pos zs j + mtA zs (pos zs j) := by
  have hp := hJ.2 j hj
  rcases mt_bd zs (pos zs j) (by omega) with e0 | ⟨b1, b2, b3, b4, b5⟩
  · exact absurd e0 hm
  have e2 : pos zs (j + 1) = pos zs j + mtA zs (pos zs j) := by
    show pos zs j + stepN zs (pos zs j) = _
    unfold stepN; rw [if_neg hm]
  refine ⟨?_, e2⟩
  rw [e2]
  exact rep_take zs _ _ _ b3 b4 b5 (mt_real zs _ (by omega) hm)
theorem lit_take {zs : List Int} {J : Nat} (hJ : Ends zs J) (j : Nat) (hj : j < J) (hm : mtA zs (pos zs j) = 0) : zs.take (pos zs (j + 1)) = zs.take (pos zs j) ++ [zs.getD (pos zs j) 0] ∧ pos zs (j + 1) = pos zs j + 1 := by
  have hp := hJ.2 j hj
  have e2 : pos zs (j + 1) = pos zs j + 1 := by
    show pos zs j + stepN zs (pos zs j) = _
    unfold stepN; rw [if_pos hm]
  exact ⟨by rw [e2]; exact take_succ_getD zs _ hp, e2⟩
end Go.Proofs.YtaeicgfebeliiaaGreatDoor
namespace Go.Proofs.YtaeicgfebeliiaaGreatDoor
open Go.ChangeShapes Go.WideShapes Go.ChangeAt Go.RowKit
set_option linter.unusedVariables false

/-- The source in the block S reads the bytes ds, of whose bits t are taken. -/
structure Src (w : World) (S b off cap : Nat) (ds : List Nat) (t : Nat) : Prop where
  c0 : w.cell? ⟨S, 0, none⟩ = some (.slice (some ⟨b, off, none⟩) ds.length cap)
  c1 : w.cell? ⟨S, 1, none⟩ = some (.int .i64 t)
  fr : ∀ o, w.frozen? ⟨S, o, none⟩ = false
  ne : b ≠ S
  dat : ∀ i, i < ds.length → w.cell? ⟨b, off + i, none⟩ = some (.int .u8 ((ds.getD i 0 : Nat) : Int))
theorem Src.lt {w : World} {S b off cap : Nat} {ds : List Nat} {t : Nat} (h : Src w S b off cap ds t) : S < w.heap.size := World.block_lt_of_cell? w ⟨S, 0, none⟩ h.c0
theorem Src.set {w : World} {S b off cap : Nat} {ds : List Nat} {t : Nat} (h : Src w S b off cap ds t) (t' : Nat) : Src (w.setCell ⟨S, 1, none⟩ (.int .i64 (t' : Int))) S b off cap ds t' :=
  ⟨(World.cell?_setCell_other _ _ _ _ (fun e => by injection e; omega)).trans h.c0, World.cell?_setCell_same w ⟨S, 1, none⟩ _ h.c1, fun o => by rw [World.frozen?_setCell]; exact h.fr o, h.ne, fun i hi => (World.cell?_setCell_other _ _ _ _ (fun e => by injection e with e1; exact h.ne e1.symm)).trans (h.dat i hi)⟩
theorem Src.drew {w : World} {S b off cap : Nat} {ds : List Nat} {t : Nat} (h : Src w S b off cap ds t) (n : Nat) : Src (w.drewN n) S b off cap ds t := ⟨h.c0, h.c1, h.fr, h.ne, h.dat⟩
theorem and_oneU (a : Nat) (ha : a < 256) : bits .and .i64 (a : Int) 1 = ((a % 2 : Nat) : Int) := by
  have h := (bits_nat .i64 63 (by decide) (fun n h0 h2 => by rw [IntKind.wrap_i64]; omega) a 1 (by omega) (by omega)).1
  have e : ((1 : Nat) : Int) = 1 := rfl
  rw [e] at h
  rw [h, Nat.and_one_is_mod]
set_option maxHeartbeats 2000000 in
theorem takeBit_any (w : World) (S b off cap : Nat) (ds : List Nat) (t : Nat) (hl : ds.length ≤ 100000) (h8 : ∀ d ∈ ds, d < 256) (hs : Src w S b off cap ds t) (ht : t < 8 * ds.length) :
    Calls Tryz.prog 132 #[.pointer (some ⟨S, 0, none⟩)] w fun e w' => e = .returned (.tuple #[.int .i64 (btA ds t), .bool true]) ∧ ∃ n, w' = (w.setCell ⟨S, 1, none⟩ (.int .i64 ((t + 1 : Nat) : Int))).drewN n := by
  have e0 := hs.c0
  have e1 := hs.c1
  have hf := hs.fr 1
  obtain ⟨q, hqn⟩ : ∃ q, t / 8 = q := ⟨_, rfl⟩
  obtain ⟨r, hrn⟩ : ∃ r, t % 8 = r := ⟨_, rfl⟩
  have hql : q < ds.length := by omega
  have hd := hs.dat q hql
  have hb : ds.getD q 0 < 256 := by
    rw [List.getD_eq_getElem?_getD, List.getElem?_eq_getElem hql]
    exact h8 _ (List.getElem_mem _)
  have hBT : Hid (btA ds t = ds.getD q 0 / 2 ^ r % 2) := by show _ = _; unfold btA; rw [hqn, hrn]
  obtain ⟨D, hD⟩ : ∃ D, ds.getD q 0 = D := ⟨_, rfl⟩
  rw [hD] at hd hb hBT
  have hq : (t : Int) / 8 = (q : Int) := by omega
  have hr : (t : Int) % 8 = (r : Int) := by omega
  have hr8 : r < 8 := by omega
  have hz : ((t : Int) == 8 * (ds.length : Int)) = false := by rw [beq_eq_false_iff_ne]; omega
  have hv : bits .and .i64 (wrap64 ((D : Int) / 2 ^ r)) 1 = ((btA ds t : Nat) : Int) := by
    have e : ((D : Int) / 2 ^ r) = ((D / 2 ^ r : Nat) : Int) := by simp
    have hle : D / 2 ^ r ≤ D := Nat.div_le_self _ _
    rw [hBT.out, e]
    generalize D / 2 ^ r = x at *
    rw [IntWalk.wrap64_in _ ⟨by omega, by omega⟩, and_oneU _ (by omega)]
  have HV : Hid _ := hv
  clear hs h8 hD hqn hrn hv hBT
  go_enter Tryz.func132, Tryz.ntmps132
  go_wp2
  go_region
  go_wp2
  go_region
  go_wp2
  go_returns
  exact ⟨by rw [HV.out]; rfl, 2, rfl⟩
end Go.Proofs.YtaeicgfebeliiaaGreatDoor
namespace Go.Proofs.YtaeicgfebeliiaaGreatDoor
open Go.ChangeShapes Go.WideShapes Go.ChangeAt Go.RowKit
set_option linter.unusedVariables false

theorem nil_take (a : Addr) (W : World) : (nilAhead 255 86 (.pointer (some a)) "loop.example/g00137/impl.takeBit").run Tryz.prog W = .ok (some false) W := by kernel_rfl
theorem or_num (a x u : Nat) (ha : a < 2 ^ u) (hx : x ≤ 1) (hu : u < 16) : bits .or .i64 (a : Int) (wrap64 ((x : Int) * 2 ^ u)) = ((a + x * 2 ^ u : Nat) : Int) := by
  have p : 2 ^ u ≤ 2 ^ 15 := Nat.pow_le_pow_right (by omega) (by omega)
  have p0 : 2 ^ 15 = 32768 := rfl
  have hm : x * 2 ^ u ≤ 32768 := by
    have := Nat.mul_le_mul hx (Nat.le_refl (2 ^ u)); omega
  have e1 : (x : Int) * 2 ^ u = ((x * 2 ^ u : Nat) : Int) := by simp
  have e2 : wrap64 ((x : Int) * 2 ^ u) = ((x * 2 ^ u : Nat) : Int) := by
    rw [e1]
    generalize x * 2 ^ u = y at *
    rw [IntWalk.wrap64_in _ ⟨by omega, by omega⟩]
  have h1 : a ||| x * 2 ^ u = a + x * 2 ^ u := by
    rw [Nat.mul_comm, Nat.or_comm, Nat.add_comm, Nat.two_pow_add_eq_or_of_lt ha]
  have h := (bits_nat .i64 60 (by decide) (fun n h0 h2 => by rw [IntKind.wrap_i64]; omega) a (x * 2 ^ u) (by omega) (by omega)).2
  rw [e2, h, h1]
theorem gr_own (S : Nat) (w : World) (o : Nat) (v : Value) : Gr S w (w.setCell ⟨S, o, none⟩ v) :=
  ⟨rfl, rfl, rfl, by simp [World.setCell], fun i hi hne => Below.heap_setCell _ _ _ _ (fun e => hne (by rw [e]))⟩
theorem gr_dn (B : Nat) (w : World) (n : Nat) : Gr B w (w.drewN n) := ⟨rfl, rfl, rfl, Nat.le_refl _, fun _ _ _ => rfl⟩
set_option maxHeartbeats 4000000 in
theorem takeNumber_any (w : World) (S b off cap : Nat) (ds : List Nat) (t k : Nat) (hl : ds.length ≤ 100000) (h8 : ∀ d ∈ ds, d < 256) (hk : k ≤ 16) (hs : Src w S b off cap ds t) (ht : t + k ≤ 8 * ds.length) :
    Calls Tryz.prog 88 #[.iface 86 (.pointer (some ⟨S, 0, none⟩)), .int .i64 k] w fun e w' => e = .returned (.tuple #[.int .i64 (rdN ds t k), .bool true]) ∧ Src w' S b off cap ds (t + k) ∧ Gr S w w' := by
  have HS0 : Hid _ := hs
  clear hs
  go_enter Tryz.func88, Tryz.ntmps88
  go_wp2
  go_loopw [6, 11] (fun n i wr => ∃ j : Nat, j ≤ k ∧ n = .int .i64 (rdN ds t j) ∧ i = .int .i64 j ∧ Src wr S b off cap ds (t + j) ∧ Gr S w wr) (fun n i _ => k - (intOf i).toNat)
  case atStart => exact ⟨0, Nat.zero_le _, rfl, rfl, HS0.out, Gr.refl _ _⟩
  case round =>
    obtain ⟨j, hj, rfl, rfl, hsj, hbj⟩ := hrel
    have HS : Hid (Src wr S b off cap ds (t + j)) := hsj
    have HB : Hid (Gr S w wr) := hbj
    clear hsj hbj
    by_cases hlt : j < k
    · have HC : Hid _ := takeBit_any wr S b off cap ds (t + j) hl h8 HS.out (by omega)
      have ho : bits .or .i64 (rdN ds t j : Int) (wrap64 ((btA ds (t + j) : Int) * 2 ^ j)) = ((rdN ds t (j + 1) : Nat) : Int) := or_num _ _ _ (rdN_lt _ _ _) (btA_le _ _) (by omega)
      obtain ⟨y, hy⟩ : ∃ y, btA ds (t + j) = y := ⟨_, rfl⟩
      obtain ⟨z, hz⟩ : ∃ z, rdN ds t j = z := ⟨_, rfl⟩
      obtain ⟨z', hz'⟩ : ∃ z, rdN ds t (j + 1) = z := ⟨_, rfl⟩
      rw [hy] at HC ho
      rw [hz, hz'] at ho
      rw [hz]
      have HZ : Hid (rdN ds t (j + 1) = z') := hz'
      clear hy hz hz'
      have hnil := nil_take ⟨S, 0, none⟩
      go_wp2_with fail
      refine Calls.mono HC.out ?_
      rintro e w2 ⟨rfl, m, hw2⟩
      have HS2 : Hid (Src w2 S b off cap ds (t + (j + 1))) := by show Src _ _ _ _ _ _ _; rw [hw2]; exact (HS.out.set (t + j + 1)).drew m
      have HB2 : Hid (Gr S w w2) := by show Gr _ _ _; rw [hw2]; exact (HB.out.trans (gr_own _ _ _ _)).trans (gr_dn _ _ _)
      clear hw2
      go_wp2
      go_roundw
      case rel => exact ⟨j + 1, by omega, by rw [HZ.out], by go_num, HS2.out, HB2.out⟩
      case measure => simp [intOf]; omega
    · have e : j = k := by omega
      subst e
      go_wp2
      go_returns
      exact ⟨rfl, HS.out, HB.out⟩
end Go.Proofs.YtaeicgfebeliiaaGreatDoor
namespace Go.Proofs.YtaeicgfebeliiaaGreatDoor
open Go.ChangeShapes Go.WideShapes Go.ChangeAt Go.RowKit
set_option linter.unusedVariables false

theorem Src.gr {w w' : World} {S b off cap : Nat} {ds : List Nat} {t B : Nat} (h : Src w S b off cap ds t) (k : Gr B w w') (h1 : S ≠ B) (h2 : b ≠ B) (h3 : b < w.heap.size) : Src w' S b off cap ds t :=
  ⟨(k.cell h.lt h1 0).trans h.c0, (k.cell h.lt h1 1).trans h.c1, fun o => (k.frozen h.lt h1 o).trans (h.fr o), h.ne, fun i hi => (k.cell h3 h2 _).trans (h.dat i hi)⟩
theorem Src.nw {w w' : World} {S b off cap : Nat} {ds : List Nat} {t : Nat} (h : Src w S b off cap ds t) (k : Nw w w') (h3 : b < w.heap.size) : Src w' S b off cap ds t :=
  ⟨((bcell k).1 _ _ h.lt).trans h.c0, ((bcell k).1 _ _ h.lt).trans h.c1, fun o => ((bcell k).2 _ _ h.lt).trans (h.fr o), h.ne, fun i hi => ((bcell k).1 _ _ h3).trans (h.dat i hi)⟩
/-- A book of codes, as a value. -/
def bookV (cn : Nat → Nat) (g n cap : Nat) : Value := .agg #[.int .i64 (cn 0 : Int), .int .i64 (cn 1 : Int), .int .i64 (cn 2 : Int), .int .i64 (cn 3 : Int), .int .i64 (cn 4 : Int), .int .i64 (cn 5 : Int), .int .i64 (cn 6 : Int), .int .i64 (cn 7 : Int), .int .i64 (cn 8 : Int), .int .i64 (cn 9 : Int), .int .i64 (cn 10 : Int), .int .i64 (cn 11 : Int), .int .i64 (cn 12 : Int), .int .i64 (cn 13 : Int), .int .i64 (cn 14 : Int), .int .i64 (cn 15 : Int), .slice (some ⟨g, 0, none⟩) n cap]
/-- The symbols of a book. -/
def SyAt (w : World) (g : Nat) (sy : List Nat) : Prop := g < w.heap.size ∧ ∀ i, i < sy.length → w.cell? ⟨g, i, none⟩ = some (.int .i64 ((sy.getD i 0 : Nat) : Int))
/-- A book in a box. -/
structure BkAt (w : World) (B : Nat) (cn : Nat → Nat) (g n cap : Nat) : Prop where
  lt : B < w.heap.size
  cnt : ∀ l, l < 16 → w.cell? ⟨B, l, none⟩ = some (.int .i64 (cn l : Int))
  syc : w.cell? ⟨B, 16, none⟩ = some (.slice (some ⟨g, 0, none⟩) n cap)
theorem BkAt.new (w : World) (cn : Nat → Nat) (g n cap : Nat) (t : TypeId) : BkAt (w.alloc (.cells #[.int .i64 (cn 0 : Int), .int .i64 (cn 1 : Int), .int .i64 (cn 2 : Int), .int .i64 (cn 3 : Int), .int .i64 (cn 4 : Int), .int .i64 (cn 5 : Int), .int .i64 (cn 6 : Int), .int .i64 (cn 7 : Int), .int .i64 (cn 8 : Int), .int .i64 (cn 9 : Int), .int .i64 (cn 10 : Int), .int .i64 (cn 11 : Int), .int .i64 (cn 12 : Int), .int .i64 (cn 13 : Int), .int .i64 (cn 14 : Int), .int .i64 (cn 15 : Int), .slice (some ⟨g, 0, none⟩) n cap] t)) w.heap.size cn g n cap := by
  refine ⟨by simp, fun l hl => ?_, by simp⟩
  rcases (show l = 0 ∨ l = 1 ∨ l = 2 ∨ l = 3 ∨ l = 4 ∨ l = 5 ∨ l = 6 ∨ l = 7 ∨ l = 8 ∨ l = 9 ∨ l = 10 ∨ l = 11 ∨ l = 12 ∨ l = 13 ∨ l = 14 ∨ l = 15 by omega) with rfl | rfl | rfl | rfl | rfl | rfl | rfl | rfl | rfl | rfl | rfl | rfl | rfl | rfl | rfl | rfl <;> simp
theorem BkAt.gr {w w' : World} {B : Nat} {cn : Nat → Nat} {g n cap S : Nat} (h : BkAt w B cn g n cap) (k : Gr S w w') (hne : B ≠ S) : BkAt w' B cn g n cap :=
  ⟨Nat.lt_of_lt_of_le h.lt k.size, fun l hl => (k.cell h.lt hne l).trans (h.cnt l hl), (k.cell h.lt hne 16).trans h.syc⟩
theorem SyAt.gr {w w' : World} {g S : Nat} {sy : List Nat} (h : SyAt w g sy) (k : Gr S w w') (hne : g ≠ S) : SyAt w' g sy :=
  ⟨Nat.lt_of_lt_of_le h.1 k.size, fun i hi => (k.cell h.1 hne i).trans (h.2 i hi)⟩
theorem whole_any (w : World) (S b off cap : Nat) (ds : List Nat) (t : Nat) (hl : ds.length ≤ 100000) (hs : Src w S b off cap ds t) (ht : t ≤ 8 * ds.length) :
    Calls Tryz.prog 74 #[.pointer (some ⟨S, 0, none⟩)] w fun e w' => e = .returned (.int .i64 (((t + 7) / 8 : Nat) : Int)) ∧ ∃ n, w' = w.drewN n := by
  have e1 := hs.c1
  have hq : ((t : Int) + 7) / 8 = (((t + 7) / 8 : Nat) : Int) := by omega
  obtain ⟨q, hqn⟩ : ∃ q, (t + 7) / 8 = q := ⟨_, rfl⟩
  rw [hqn] at hq ⊢
  clear hs hqn
  go_enter Tryz.func74, Tryz.ntmps74
  go_wp2
  go_ret
  exact ⟨by rw [← hq]; rfl, 0, rfl⟩
theorem asN_le (cn : Nat → Nat) (h : ∀ l, cn l ≤ 300) (l : Nat) : asN cn l ≤ 300 * l := by
  induction l with
  | zero => exact Nat.le_refl _
  | succ l ih =>
    have := h l
    unfold asN
    split <;> omega
set_option maxHeartbeats 4000000 in
theorem takeSymbol_any (w : World) (S b off cap : Nat) (ds : List Nat) (t : Nat) (cn : Nat → Nat) (g cp : Nat) (sy : List Nat) (c L k : Nat) (hl : ds.length ≤ 100000) (h8 : ∀ d ∈ ds, d < 256) (hcn : ∀ l, cn l ≤ 300) (hF : Fnd cn sy c L k) (hc : c < 2 ^ L) (hs : Src w S b off cap ds t) (hb : b < w.heap.size) (hg : SyAt w g sy) (hgS : g ≠ S) (ht : t + L ≤ 8 * ds.length) (hbt : ∀ i, i < L → btA ds (t + i) = (codeOf c L).getD i 0) :
    Calls Tryz.prog 106 #[bookV cn g sy.length cp, .iface 86 (.pointer (some ⟨S, 0, none⟩))] w fun e w' => e = .returned (.tuple #[.int .i64 k, .int .i64 0]) ∧ Src w' S b off cap ds (t + L) ∧ Gr S w w' := by
  unfold bookV
  obtain ⟨W, hW⟩ : ∃ W, w.alloc (.cells #[.int .i64 (cn 0 : Int), .int .i64 (cn 1 : Int), .int .i64 (cn 2 : Int), .int .i64 (cn 3 : Int), .int .i64 (cn 4 : Int), .int .i64 (cn 5 : Int), .int .i64 (cn 6 : Int), .int .i64 (cn 7 : Int), .int .i64 (cn 8 : Int), .int .i64 (cn 9 : Int), .int .i64 (cn 10 : Int), .int .i64 (cn 11 : Int), .int .i64 (cn 12 : Int), .int .i64 (cn 13 : Int), .int .i64 (cn 14 : Int), .int .i64 (cn 15 : Int), .slice (some ⟨g, 0, none⟩) sy.length cp] 110) = W := ⟨_, rfl⟩
  have BK : Hid (BkAt W w.heap.size cn g sy.length cp) := by show BkAt _ _ _ _ _ _; rw [← hW]; exact BkAt.new _ _ _ _ _ _
  have NW : Hid (Nw w W) := by show Nw _ _; rw [← hW]; exact (Below.refl _ _).alloc (Nat.le_refl _) _
  have HS : Hid (Src W S b off cap ds t) := hs.nw NW.out hb
  have HSy : Hid (SyAt W g sy) := hg.gr (Gr.of_nw (B := S) NW.out) hgS
  have hBS : w.heap.size ≠ S := by have := hs.lt; omega
  have HF : Hid _ := hF
  have HBT : Hid _ := hbt
  have HW : Hid (_ = W) := hW
  clear hs hg hW hbt hF
  go_enter Tryz.func106, Tryz.ntmps106
  go_wp2
  rw [HW.out]
  go_loopw [6, 7, 8, 9] (fun x6 x7 x8 i wr => ∃ l : Nat, l < L ∧ x6 = .int .i64 ((c / 2 ^ (L - l) : Nat) : Int) ∧ x7 = .int .i64 (fsN cn (l + 1) : Int) ∧ x8 = .int .i64 (asN cn (l + 1) : Int) ∧ i = .int .i64 ((l + 1 : Nat) : Int) ∧ Src wr S b off cap ds (t + l) ∧ Gr S W wr) (fun _ _ _ i _ => 20 - (intOf i).toNat)
  case atStart => exact ⟨0, by have := HF.out.l1; omega, by rw [Nat.sub_zero, Nat.div_eq_of_lt hc]; rfl, rfl, rfl, rfl, HS.out, Gr.refl _ _⟩
  case round =>
    obtain ⟨l, hl1, rfl, rfl, rfl, rfl, hsj, hgj⟩ := hrel
    have hl15 : l + 1 < 16 := by have := HF.out.l2; omega
    have HC : Hid _ := takeBit_any wr S b off cap ds (t + l) hl h8 hsj (by omega)
    have HSw : Hid (Src wr S b off cap ds (t + l)) := hsj
    have HGw : Hid (Gr S W wr) := hgj
    clear hsj hgj
    have hy := code_step c L l hl1
    rw [← HBT.out l hl1] at hy
    obtain ⟨y, hyy⟩ : ∃ y, btA ds (t + l) = y := ⟨_, rfl⟩
    obtain ⟨z, hz⟩ : ∃ z, c / 2 ^ (L - l) = z := ⟨_, rfl⟩
    obtain ⟨z', hz'⟩ : ∃ z, c / 2 ^ (L - (l + 1)) = z := ⟨_, rfl⟩
    obtain ⟨f, hf⟩ : ∃ f, fsN cn (l + 1) = f := ⟨_, rfl⟩
    obtain ⟨a, ha⟩ : ∃ a, asN cn (l + 1) = a := ⟨_, rfl⟩
    rw [hyy] at HC hy
    rw [hz, hz'] at hy
    rw [hz, hf, ha]
    have hnil := nil_take ⟨S, 0, none⟩
    go_wp2_with fail
    refine Calls.mono HC.out ?_
    rintro e w2 ⟨rfl, m, hw2⟩
    have HS2 : Hid (Src w2 S b off cap ds (t + (l + 1))) := by show Src _ _ _ _ _ _ _; rw [hw2]; exact (HSw.out.set (t + l + 1)).drew m
    have HG2 : Hid (Gr S W w2) := by show Gr _ _ _; rw [hw2]; exact (HGw.out.trans (gr_own _ _ _ _)).trans (gr_dn _ _ _)
    clear hw2
    have hBK := BK.out.gr HG2.out hBS
    have k0 := hBK.cnt (l + 1) hl15
    have k1 := hBK.syc
    have hub := hcn (l + 1)
    have hab := asN_le cn hcn (l + 1)
    have hf' : fsN cn (l + 1 + 1) = (fsN cn (l + 1) + cn (l + 1)) * 2 := by rw [fsN]; exact if_neg (by omega)
    have ha' : asN cn (l + 1 + 1) = asN cn (l + 1) + cn (l + 1) := by rw [asN]; exact if_neg (by omega)
    have hcb : c < 32768 := Nat.lt_of_lt_of_le hc (Nat.pow_le_pow_right (by omega) HF.out.l2 : 2 ^ L ≤ 2 ^ 15)
    have hzb : z < 32768 := by rw [← hz]; exact Nat.lt_of_le_of_lt (Nat.div_le_self _ _) hcb
    have hzb' : z' < 32768 := by rw [← hz']; exact Nat.lt_of_le_of_lt (Nat.div_le_self _ _) hcb
    have hyb : y ≤ 1 := by rw [← hyy]; exact btA_le _ _
    obtain ⟨u, hu⟩ : ∃ u, cn (l + 1) = u := ⟨_, rfl⟩
    rw [hu] at k0 hub hf' ha'
    rw [hf] at hf'
    rw [ha] at ha' hab
    have Hz' : Hid _ := hz'
    have Hf' : Hid _ := hf'
    have Ha' : Hid _ := ha'
    clear hBK hf' ha' hz hcn hyy
    by_cases hlL : l + 1 < L
    · have hno := HF.out.no (l + 1) (by omega) hlL
      rw [hf, hu, hz'] at hno
      clear hz' hu hf ha
      go_wp2_with fail
      go_roundw
      case rel => exact ⟨l + 1, hlL, by rw [Hz'.out]; go_num, by rw [Hf'.out]; go_num, by rw [Ha'.out]; go_num, by go_num, HS2.out, HG2.out⟩
      case measure => simp [intOf]; omega
    · have e : L = l + 1 := by omega
      have hge := HF.out.ge
      have hlt := HF.out.lt
      have hix := HF.out.ix
      have hat := HF.out.at'
      rw [e, Nat.sub_self, Nat.pow_zero, Nat.div_one] at hz'
      rw [e, hf, hz'] at hge
      rw [e, hf, hu, hz'] at hlt
      rw [e, hf, ha, hz'] at hix hat
      have hsy := (HSy.out.gr HG2.out hgS).2 _ hix
      rw [hat] at hsy
      obtain ⟨j, hj⟩ : ∃ j, a + (z' - f) = j := ⟨_, rfl⟩
      rw [hj] at hsy hix
      have hjj : (a : Int) + ((z : Int) * 2 + (y : Int)) - (f : Int) = (j : Int) := by omega
      have hlast : Hid (Src w2 S b off cap ds (t + L)) := by show Src _ _ _ _ _ _ _; rw [e]; exact HS2.out
      have HGw2 : Hid (Gr S w w2) := (Gr.of_nw NW.out).trans HG2.out
      clear hz' hu hf ha hat hj
      go_wp2_with fail
      go_returns
      exact ⟨rfl, hlast.out, HGw2.out⟩
end Go.Proofs.YtaeicgfebeliiaaGreatDoor
