/-
  The program's source of bits: numbers; each theorem names its conditions.
  Small facts on new lists and on what is left as it was; each theorem names its conditions.
  The program's source of bits: whole bytes; a symbol found by its code; each theorem names its conditions.
  A match is read by the program; each theorem names its conditions.
-/
import Derived.Test.YtaeicgfebeliiaaDoorJAG
import Derived.Deep.RegionWith
import Derived.Deep.RegionHeld3
import Derived.Test.YtaeicgfebeliiaaDoorJAF
import Derived.Test.YtaeicgfebeliiaaDoorJAB
import Derived.Deep.DeepCutAuto
import Derived.Test.YtaeicgfebeliiaaDoorJAE
namespace Go.Proofs.YtaeicgfebeliiaaDoor
open Go.ChangeShapes Go.WideShapes Go.ChangeAt Go.RowKit
set_option linter.unusedVariables false

theorem nil_take (a : Addr) (W : World) : (nilAhead 257 47 (.pointer (some a)) "loop.example/g00137/impl.takeBit").run Tryd.prog W = .ok (some false) W := by kernel_rfl
theorem or_num (a x u : Nat) (ha : a < 2 ^ u) (hx : x ≤ 1) (hu : u < 16) : bits .or .i64 (a : Int) (wrap64 ((x : Int) * 2 ^ u)) = ((a + x * 2 ^ u : Nat) : Int) := by
  have p : 2 ^ u ≤ 2 ^ 15 := Nat.pow_le_pow_right (by omega) (by omega)
  have p0 : 2 ^ 15 = 32768 := rfl
  have hm : x * 2 ^ u ≤ 32768 := by
    have := Nat.mul_le_mul hx (Nat.le_refl (2 ^ u)); omega
  have e1 : (x : Int) * 2 ^ u = ((x * 2 ^ u : Nat) : Int) := by simp
  have e2 : wrap64 ((x : Int) * 2 ^ u) = ((x * 2 ^ u : Nat) : Int) := by
    rw [e1]
    generalize x * 2 ^ u = y at *
    rw [IntWalk.wrap64_in _ ⟨by omega, by omega⟩]
  have h1 : a ||| x * 2 ^ u = a + x * 2 ^ u := by
    rw [Nat.mul_comm, Nat.or_comm, Nat.add_comm, Nat.two_pow_add_eq_or_of_lt ha]
  have h := (bits_nat .i64 60 (by decide) (fun n h0 h2 => by rw [IntKind.wrap_i64]; omega) a (x * 2 ^ u) (by omega) (by omega)).2
  rw [e2, h, h1]
theorem gr_own (S : Nat) (w : World) (o : Nat) (v : Value) : Gr S w (w.setCell ⟨S, o, none⟩ v) :=
  ⟨rfl, rfl, rfl, by simp [World.setCell], fun i hi hne => Below.heap_setCell _ _ _ _ (fun e => hne (by rw [e]))⟩
theorem gr_dn (B : Nat) (w : World) (n : Nat) : Gr B w (w.drewN n) := ⟨rfl, rfl, rfl, Nat.le_refl _, fun _ _ _ => rfl⟩
set_option maxHeartbeats 4000000 in
theorem takeNumber_any (w : World) (S b cap : Nat) (ds : List Nat) (t k : Nat) (hl : ds.length ≤ 100000) (h8 : ∀ d ∈ ds, d < 256) (hk : k ≤ 16) (hs : Src w S b cap ds t) (ht : t + k ≤ 8 * ds.length) :
    Calls Tryd.prog 48 #[.iface 47 (.pointer (some ⟨S, 0, none⟩)), .int .i64 k] w fun e w' => e = .returned (.tuple #[.int .i64 (rdN ds t k), .bool true]) ∧ Src w' S b cap ds (t + k) ∧ Gr S w w' := by
  have HS0 : Hid _ := hs
  clear hs
  go_enter Tryd.func48, Tryd.ntmps48
  go_wp2
  go_loopw [6, 11] (fun n i wr => ∃ j : Nat, j ≤ k ∧ n = .int .i64 (rdN ds t j) ∧ i = .int .i64 j ∧ Src wr S b cap ds (t + j) ∧ Gr S w wr) (fun n i _ => k - (intOf i).toNat)
  case atStart => exact ⟨0, Nat.zero_le _, rfl, rfl, HS0.out, Gr.refl _ _⟩
  case round =>
    obtain ⟨j, hj, rfl, rfl, hsj, hbj⟩ := hrel
    have HS : Hid (Src wr S b cap ds (t + j)) := hsj
    have HB : Hid (Gr S w wr) := hbj
    clear hsj hbj
    by_cases hlt : j < k
    · have HC : Hid _ := takeBit_any wr S b cap ds (t + j) hl h8 HS.out (by omega)
      have ho : bits .or .i64 (rdN ds t j : Int) (wrap64 ((btA ds (t + j) : Int) * 2 ^ j)) = ((rdN ds t (j + 1) : Nat) : Int) := or_num _ _ _ (rdN_lt _ _ _) (btA_le _ _) (by omega)
      obtain ⟨y, hy⟩ : ∃ y, btA ds (t + j) = y := ⟨_, rfl⟩
      obtain ⟨z, hz⟩ : ∃ z, rdN ds t j = z := ⟨_, rfl⟩
      obtain ⟨z', hz'⟩ : ∃ z, rdN ds t (j + 1) = z := ⟨_, rfl⟩
      rw [hy] at HC ho
      rw [hz, hz'] at ho
      rw [hz]
      have HZ : Hid (rdN ds t (j + 1) = z') := hz'
      clear hy hz hz'
      have hnil := nil_take ⟨S, 0, none⟩
      go_wp2_with fail
      refine Calls.mono HC.out ?_
      rintro e w2 ⟨rfl, m, hw2⟩
      have HS2 : Hid (Src w2 S b cap ds (t + (j + 1))) := by show Src _ _ _ _ _ _; rw [hw2]; exact (HS.out.set (t + j + 1)).drew m
      have HB2 : Hid (Gr S w w2) := by show Gr _ _ _; rw [hw2]; exact (HB.out.trans (gr_own _ _ _ _)).trans (gr_dn _ _ _)
      clear hw2
      go_wp2
      go_roundw
      case rel => exact ⟨j + 1, by omega, by rw [HZ.out], by go_num, HS2.out, HB2.out⟩
      case measure => simp [intOf]; omega
    · have e : j = k := by omega
      subst e
      go_wp2
      go_returns
      exact ⟨rfl, HS.out, HB.out⟩
end Go.Proofs.YtaeicgfebeliiaaDoor
namespace Go.Proofs.YtaeicgfebeliiaaDoor
open Go.ChangeShapes Go.WideShapes Go.ChangeAt Go.RowKit
set_option linter.unusedVariables false

theorem Nw.drw {w w' : World} (h : Nw w.drew w') : Nw w w' := Nw.trans (show Nw w w.drew from (Below.refl _ _).drew) h
theorem bcell {W w1 : World} (hb : Nw W w1) : (∀ b o, b < W.heap.size → w1.cell? ⟨b, o, none⟩ = W.cell? ⟨b, o, none⟩) ∧ (∀ b o, b < W.heap.size → w1.frozen? ⟨b, o, none⟩ = W.frozen? ⟨b, o, none⟩) :=
  ⟨fun b o h => Below.cell hb (p := ⟨b, o, none⟩) h, fun b o h => Below.frozen hb (p := ⟨b, o, none⟩) h⟩
theorem run_mk (t e : TypeId) (z : Value) (size bytes : Nat) (ht : Tryd.prog.underlying t = some (.slice e)) (hinfo : (Tryd.prog.info? e).map (fun i => (i.zero, i.size, i.bytes)) = some (some z, size, bytes))
    (n : Nat) (hbytes : bytes * n ≤ 281474976710656) (h63 : n ≤ 9223372036854775807) (w : World) :
    (Instr.makeSlice t (.int .i64 (n : Int)) (.int .i64 (n : Int))).run Tryd.prog w = .ok (.slice (some ⟨w.heap.size, 0, none⟩) n n) (w.alloc (.cells (madeCells z.cells (n * size)) e)) := by
  obtain ⟨i, hi, hzz⟩ := Option.map_eq_some_iff.1 hinfo
  simp only [Prod.mk.injEq] at hzz
  obtain ⟨hz, hs, hb⟩ := hzz
  have hb' : (i.bytes : Int) * (n : Int) ≤ 281474976710656 := by
    have h : ((i.bytes * n : Nat) : Int) ≤ 281474976710656 := by rw [hb]; omega
    rwa [Int.natCast_mul] at h
  have hr := run_make (P := Tryd.prog) w t e i z ht hi hz .i64 .i64 n n (by omega) (Int.le_refl _) hb' (by omega)
  simpa [hs] using hr
theorem madeCells_get (z : Array Value) (n j : Nat) (h : j < n) : (madeCells z n)[j]? = some (z[j % z.size]!) := by
  simp [madeCells, h]
theorem addr_spot {W : World} {x : Addr} {v : Value} (h : W.cell? (x.add 0) = some v) : x = ⟨x.block, x.off, none⟩ := by
  obtain ⟨b, off, spot⟩ := x
  have hs := World.cell?_spot h
  simp [Addr.add] at hs
  subst hs; rfl
theorem add_at (b off i : Nat) : (⟨b, off, none⟩ : Addr).add i = ⟨b, off + i, none⟩ := by
  unfold Addr.add
  by_cases h0 : i = 0
  · subst h0; simp
  · simp [h0]
end Go.Proofs.YtaeicgfebeliiaaDoor
namespace Go.Proofs.YtaeicgfebeliiaaDoor
open Go.ChangeShapes Go.WideShapes Go.ChangeAt Go.RowKit
set_option linter.unusedVariables false

theorem Src.gr {w w' : World} {S b cap : Nat} {ds : List Nat} {t B : Nat} (h : Src w S b cap ds t) (k : Gr B w w') (h1 : S ≠ B) (h2 : b ≠ B) (h3 : b < w.heap.size) : Src w' S b cap ds t :=
  ⟨(k.cell h.lt h1 0).trans h.c0, (k.cell h.lt h1 1).trans h.c1, fun o => (k.frozen h.lt h1 o).trans (h.fr o), h.ne, fun i hi => (k.cell h3 h2 i).trans (h.dat i hi)⟩
theorem Src.nw {w w' : World} {S b cap : Nat} {ds : List Nat} {t : Nat} (h : Src w S b cap ds t) (k : Nw w w') (h3 : b < w.heap.size) : Src w' S b cap ds t :=
  ⟨((bcell k).1 _ _ h.lt).trans h.c0, ((bcell k).1 _ _ h.lt).trans h.c1, fun o => ((bcell k).2 _ _ h.lt).trans (h.fr o), h.ne, fun i hi => ((bcell k).1 _ _ h3).trans (h.dat i hi)⟩
/-- A book of codes, as a value. -/
def bookV (cn : Nat → Nat) (g n cap : Nat) : Value := .agg #[.int .i64 (cn 0 : Int), .int .i64 (cn 1 : Int), .int .i64 (cn 2 : Int), .int .i64 (cn 3 : Int), .int .i64 (cn 4 : Int), .int .i64 (cn 5 : Int), .int .i64 (cn 6 : Int), .int .i64 (cn 7 : Int), .int .i64 (cn 8 : Int), .int .i64 (cn 9 : Int), .int .i64 (cn 10 : Int), .int .i64 (cn 11 : Int), .int .i64 (cn 12 : Int), .int .i64 (cn 13 : Int), .int .i64 (cn 14 : Int), .int .i64 (cn 15 : Int), .slice (some ⟨g, 0, none⟩) n cap]
/-- The symbols of a book. -/
def SyAt (w : World) (g : Nat) (sy : List Nat) : Prop := g < w.heap.size ∧ ∀ i, i < sy.length → w.cell? ⟨g, i, none⟩ = some (.int .i64 ((sy.getD i 0 : Nat) : Int))
/-- A book in a box. -/
structure BkAt (w : World) (B : Nat) (cn : Nat → Nat) (g n cap : Nat) : Prop where
  lt : B < w.heap.size
  cnt : ∀ l, l < 16 → w.cell? ⟨B, l, none⟩ = some (.int .i64 (cn l : Int))
  syc : w.cell? ⟨B, 16, none⟩ = some (.slice (some ⟨g, 0, none⟩) n cap)
theorem BkAt.new (w : World) (cn : Nat → Nat) (g n cap : Nat) (t : TypeId) : BkAt (w.alloc (.cells #[.int .i64 (cn 0 : Int), .int .i64 (cn 1 : Int), .int .i64 (cn 2 : Int), .int .i64 (cn 3 : Int), .int .i64 (cn 4 : Int), .int .i64 (cn 5 : Int), .int .i64 (cn 6 : Int), .int .i64 (cn 7 : Int), .int .i64 (cn 8 : Int), .int .i64 (cn 9 : Int), .int .i64 (cn 10 : Int), .int .i64 (cn 11 : Int), .int .i64 (cn 12 : Int), .int .i64 (cn 13 : Int), .int .i64 (cn 14 : Int), .int .i64 (cn 15 : Int), .slice (some ⟨g, 0, none⟩) n cap] t)) w.heap.size cn g n cap := by
  refine ⟨by simp, fun l hl => ?_, by simp⟩
  rcases (show l = 0 ∨ l = 1 ∨ l = 2 ∨ l = 3 ∨ l = 4 ∨ l = 5 ∨ l = 6 ∨ l = 7 ∨ l = 8 ∨ l = 9 ∨ l = 10 ∨ l = 11 ∨ l = 12 ∨ l = 13 ∨ l = 14 ∨ l = 15 by omega) with rfl | rfl | rfl | rfl | rfl | rfl | rfl | rfl | rfl | rfl | rfl | rfl | rfl | rfl | rfl | rfl <;> simp
theorem BkAt.gr {w w' : World} {B : Nat} {cn : Nat → Nat} {g n cap S : Nat} (h : BkAt w B cn g n cap) (k : Gr S w w') (hne : B ≠ S) : BkAt w' B cn g n cap :=
  ⟨Nat.lt_of_lt_of_le h.lt k.size, fun l hl => (k.cell h.lt hne l).trans (h.cnt l hl), (k.cell h.lt hne 16).trans h.syc⟩
theorem SyAt.gr {w w' : World} {g S : Nat} {sy : List Nat} (h : SyAt w g sy) (k : Gr S w w') (hne : g ≠ S) : SyAt w' g sy :=
  ⟨Nat.lt_of_lt_of_le h.1 k.size, fun i hi => (k.cell h.1 hne i).trans (h.2 i hi)⟩
theorem whole_any (w : World) (S b cap : Nat) (ds : List Nat) (t : Nat) (hl : ds.length ≤ 100000) (hs : Src w S b cap ds t) (ht : t ≤ 8 * ds.length) :
    Calls Tryd.prog 28 #[.pointer (some ⟨S, 0, none⟩)] w fun e w' => e = .returned (.int .i64 (((t + 7) / 8 : Nat) : Int)) ∧ ∃ n, w' = w.drewN n := by
  have e1 := hs.c1
  have hq : ((t : Int) + 7) / 8 = (((t + 7) / 8 : Nat) : Int) := by omega
  obtain ⟨q, hqn⟩ : ∃ q, (t + 7) / 8 = q := ⟨_, rfl⟩
  rw [hqn] at hq ⊢
  clear hs hqn
  go_enter Tryd.func28, Tryd.ntmps28
  go_wp2
  go_ret
  exact ⟨by rw [← hq]; rfl, 0, rfl⟩
theorem asN_le (cn : Nat → Nat) (h : ∀ l, cn l ≤ 300) (l : Nat) : asN cn l ≤ 300 * l := by
  induction l with
  | zero => exact Nat.le_refl _
  | succ l ih =>
    have := h l
    unfold asN
    split <;> omega
set_option maxHeartbeats 4000000 in
theorem takeSymbol_any (w : World) (S b cap : Nat) (ds : List Nat) (t : Nat) (cn : Nat → Nat) (g cp : Nat) (sy : List Nat) (c L k : Nat) (hl : ds.length ≤ 100000) (h8 : ∀ d ∈ ds, d < 256) (hcn : ∀ l, cn l ≤ 300) (hF : Fnd cn sy c L k) (hc : c < 2 ^ L) (hs : Src w S b cap ds t) (hb : b < w.heap.size) (hg : SyAt w g sy) (hgS : g ≠ S) (ht : t + L ≤ 8 * ds.length) (hbt : ∀ i, i < L → btA ds (t + i) = (codeOf c L).getD i 0) :
    Calls Tryd.prog 78 #[bookV cn g sy.length cp, .iface 47 (.pointer (some ⟨S, 0, none⟩))] w fun e w' => e = .returned (.tuple #[.int .i64 k, .int .i64 0]) ∧ Src w' S b cap ds (t + L) ∧ Gr S w w' := by
  unfold bookV
  obtain ⟨W, hW⟩ : ∃ W, w.alloc (.cells #[.int .i64 (cn 0 : Int), .int .i64 (cn 1 : Int), .int .i64 (cn 2 : Int), .int .i64 (cn 3 : Int), .int .i64 (cn 4 : Int), .int .i64 (cn 5 : Int), .int .i64 (cn 6 : Int), .int .i64 (cn 7 : Int), .int .i64 (cn 8 : Int), .int .i64 (cn 9 : Int), .int .i64 (cn 10 : Int), .int .i64 (cn 11 : Int), .int .i64 (cn 12 : Int), .int .i64 (cn 13 : Int), .int .i64 (cn 14 : Int), .int .i64 (cn 15 : Int), .slice (some ⟨g, 0, none⟩) sy.length cp] 89) = W := ⟨_, rfl⟩
  have BK : Hid (BkAt W w.heap.size cn g sy.length cp) := by show BkAt _ _ _ _ _ _; rw [← hW]; exact BkAt.new _ _ _ _ _ _
  have NW : Hid (Nw w W) := by show Nw _ _; rw [← hW]; exact (Below.refl _ _).alloc (Nat.le_refl _) _
  have HS : Hid (Src W S b cap ds t) := hs.nw NW.out hb
  have HSy : Hid (SyAt W g sy) := hg.gr (Gr.of_nw (B := S) NW.out) hgS
  have hBS : w.heap.size ≠ S := by have := hs.lt; omega
  have HF : Hid _ := hF
  have HBT : Hid _ := hbt
  have HW : Hid (_ = W) := hW
  clear hs hg hW hbt hF
  go_enter Tryd.func78, Tryd.ntmps78
  go_wp2
  rw [HW.out]
  go_loopw [6, 7, 8, 9] (fun x6 x7 x8 i wr => ∃ l : Nat, l < L ∧ x6 = .int .i64 ((c / 2 ^ (L - l) : Nat) : Int) ∧ x7 = .int .i64 (fsN cn (l + 1) : Int) ∧ x8 = .int .i64 (asN cn (l + 1) : Int) ∧ i = .int .i64 ((l + 1 : Nat) : Int) ∧ Src wr S b cap ds (t + l) ∧ Gr S W wr) (fun _ _ _ i _ => 20 - (intOf i).toNat)
  case atStart => exact ⟨0, by have := HF.out.l1; omega, by rw [Nat.sub_zero, Nat.div_eq_of_lt hc]; rfl, rfl, rfl, rfl, HS.out, Gr.refl _ _⟩
  case round =>
    obtain ⟨l, hl1, rfl, rfl, rfl, rfl, hsj, hgj⟩ := hrel
    have hl15 : l + 1 < 16 := by have := HF.out.l2; omega
    have HC : Hid _ := takeBit_any wr S b cap ds (t + l) hl h8 hsj (by omega)
    have HSw : Hid (Src wr S b cap ds (t + l)) := hsj
    have HGw : Hid (Gr S W wr) := hgj
    clear hsj hgj
    have hy := code_step c L l hl1
    rw [← HBT.out l hl1] at hy
    obtain ⟨y, hyy⟩ : ∃ y, btA ds (t + l) = y := ⟨_, rfl⟩
    obtain ⟨z, hz⟩ : ∃ z, c / 2 ^ (L - l) = z := ⟨_, rfl⟩
    obtain ⟨z', hz'⟩ : ∃ z, c / 2 ^ (L - (l + 1)) = z := ⟨_, rfl⟩
    obtain ⟨f, hf⟩ : ∃ f, fsN cn (l + 1) = f := ⟨_, rfl⟩
    obtain ⟨a, ha⟩ : ∃ a, asN cn (l + 1) = a := ⟨_, rfl⟩
    rw [hyy] at HC hy
    rw [hz, hz'] at hy
    rw [hz, hf, ha]
    have hnil := nil_take ⟨S, 0, none⟩
    go_wp2_with fail
    refine Calls.mono HC.out ?_
    rintro e w2 ⟨rfl, m, hw2⟩
    have HS2 : Hid (Src w2 S b cap ds (t + (l + 1))) := by show Src _ _ _ _ _ _; rw [hw2]; exact (HSw.out.set (t + l + 1)).drew m
    have HG2 : Hid (Gr S W w2) := by show Gr _ _ _; rw [hw2]; exact (HGw.out.trans (gr_own _ _ _ _)).trans (gr_dn _ _ _)
    clear hw2
    have hBK := BK.out.gr HG2.out hBS
    have k0 := hBK.cnt (l + 1) hl15
    have k1 := hBK.syc
    have hub := hcn (l + 1)
    have hab := asN_le cn hcn (l + 1)
    have hf' : fsN cn (l + 1 + 1) = (fsN cn (l + 1) + cn (l + 1)) * 2 := by rw [fsN]; exact if_neg (by omega)
    have ha' : asN cn (l + 1 + 1) = asN cn (l + 1) + cn (l + 1) := by rw [asN]; exact if_neg (by omega)
    have hcb : c < 32768 := Nat.lt_of_lt_of_le hc (Nat.pow_le_pow_right (by omega) HF.out.l2 : 2 ^ L ≤ 2 ^ 15)
    have hzb : z < 32768 := by rw [← hz]; exact Nat.lt_of_le_of_lt (Nat.div_le_self _ _) hcb
    have hzb' : z' < 32768 := by rw [← hz']; exact Nat.lt_of_le_of_lt (Nat.div_le_self _ _) hcb
    have hyb : y ≤ 1 := by rw [← hyy]; exact btA_le _ _
    obtain ⟨u, hu⟩ : ∃ u, cn (l + 1) = u := ⟨_, rfl⟩
    rw [hu] at k0 hub hf' ha'
    rw [hf] at hf'
    rw [ha] at ha' hab
    have Hz' : Hid _ := hz'
    have Hf' : Hid _ := hf'
    have Ha' : Hid _ := ha'
    clear hBK hf' ha' hz hcn hyy
    by_cases hlL : l + 1 < L
    · have hno := HF.out.no (l + 1) (by omega) hlL
      rw [hf, hu, hz'] at hno
      clear hz' hu hf ha
      go_wp2_with fail
      go_roundw
      case rel => exact ⟨l + 1, hlL, by rw [Hz'.out]; go_num, by rw [Hf'.out]; go_num, by rw [Ha'.out]; go_num, by go_num, HS2.out, HG2.out⟩
      case measure => simp [intOf]; omega
    · have e : L = l + 1 := by omega
      have hge := HF.out.ge
      have hlt := HF.out.lt
      have hix := HF.out.ix
      have hat := HF.out.at'
      rw [e, Nat.sub_self, Nat.pow_zero, Nat.div_one] at hz'
      rw [e, hf, hz'] at hge
      rw [e, hf, hu, hz'] at hlt
      rw [e, hf, ha, hz'] at hix hat
      have hsy := (HSy.out.gr HG2.out hgS).2 _ hix
      rw [hat] at hsy
      obtain ⟨j, hj⟩ : ∃ j, a + (z' - f) = j := ⟨_, rfl⟩
      rw [hj] at hsy hix
      have hjj : (a : Int) + ((z : Int) * 2 + (y : Int)) - (f : Int) = (j : Int) := by omega
      have hlast : Hid (Src w2 S b cap ds (t + L)) := by show Src _ _ _ _ _ _; rw [e]; exact HS2.out
      have HGw2 : Hid (Gr S w w2) := (Gr.of_nw NW.out).trans HG2.out
      clear hz' hu hf ha hat hj
      go_wp2_with fail
      go_returns
      exact ⟨rfl, hlast.out, HGw2.out⟩
end Go.Proofs.YtaeicgfebeliiaaDoor
namespace Go.Proofs.YtaeicgfebeliiaaDoor
open Go.ChangeShapes Go.WideShapes Go.ChangeAt Go.RowKit
set_option linter.unusedVariables false

theorem Tabs.gr {w w' : World} {S : Nat} (h : Tabs w) (k : Gr S w w') (hS : 4 ≤ S) (hlt : S < w.heap.size) : Tabs w' := h.below (k.below (by omega)) hS
set_option maxHeartbeats 4000000 in
theorem takeMatch_any (w : World) (S b cap : Nat) (ds : List Nat) (t : Nat) (cn : Nat → Nat) (g cp : Nat) (sy : List Nat) (c L k kd : Nat) (hl : ds.length ≤ 100000) (h8 : ∀ d ∈ ds, d < 256) (hcn : ∀ l, cn l ≤ 300) (hF : Fnd cn sy c L kd) (hc : c < 2 ^ L) (hs : Src w S b cap ds t) (hb : b < w.heap.size) (hg : SyAt w g sy) (hgS : g ≠ S) (hT : Tabs w) (hS4 : 4 ≤ S) (hk : k ≤ 28) (hkd : kd ≤ 29) (ht : t + LE k + L + DE kd ≤ 8 * ds.length) (hbt : ∀ i, i < L → btA ds (t + LE k + i) = (codeOf c L).getD i 0) :
    Calls Tryd.prog 79 #[.iface 47 (.pointer (some ⟨S, 0, none⟩)), .int .i64 ((257 + k : Nat) : Int), bookV cn g sy.length cp] w fun e w' => e = .returned (.tuple #[.int .i64 ((LB k + rdN ds t (LE k) : Nat) : Int), .int .i64 ((DB kd + rdN ds (t + LE k + L) (DE kd) : Nat) : Int), .int .i64 0]) ∧ Src w' S b cap ds (t + LE k + L + DE kd) ∧ Gr S w w' := by
  have hle := (LB_bd k (by omega)).2.2
  have hlb := (LB_bd k (by omega)).2.1
  have hde := (DB_bd kd (by omega)).2.2
  have hdb := (DB_bd kd (by omega)).2.1
  have hpow : ∀ n m v : Nat, n ≤ m → v < 2 ^ n → v < 2 ^ m := fun n m v h1 h2 => Nat.lt_of_lt_of_le h2 (Nat.pow_le_pow_right (by omega) h1)
  have hm1 : rdN ds t (LE k) < 32 := hpow _ 5 _ hle (rdN_lt _ _ _)
  have hm2 : rdN ds (t + LE k + L) (DE kd) < 8192 := hpow _ 13 _ hde (rdN_lt _ _ _)
  unfold bookV
  obtain ⟨W0, hW⟩ : ∃ W, w.alloc (.cells #[.int .i64 (cn 0 : Int), .int .i64 (cn 1 : Int), .int .i64 (cn 2 : Int), .int .i64 (cn 3 : Int), .int .i64 (cn 4 : Int), .int .i64 (cn 5 : Int), .int .i64 (cn 6 : Int), .int .i64 (cn 7 : Int), .int .i64 (cn 8 : Int), .int .i64 (cn 9 : Int), .int .i64 (cn 10 : Int), .int .i64 (cn 11 : Int), .int .i64 (cn 12 : Int), .int .i64 (cn 13 : Int), .int .i64 (cn 14 : Int), .int .i64 (cn 15 : Int), .slice (some ⟨g, 0, none⟩) sy.length cp] 89) = W := ⟨_, rfl⟩
  have BK : Hid (BkAt W0 w.heap.size cn g sy.length cp) := by show BkAt _ _ _ _ _ _; rw [← hW]; exact BkAt.new _ _ _ _ _ _
  have NW : Hid (Nw w W0) := by show Nw _ _; rw [← hW]; exact (Below.refl _ _).alloc (Nat.le_refl _) _
  have S0 : Hid (Src W0 S b cap ds t) := hs.nw NW.out hb
  have G0 : Hid (Gr S w W0) := Gr.of_nw NW.out
  have T0 : Hid (Tabs W0) := hT.gr G0.out hS4 hs.lt
  have Sy0 : Hid (SyAt W0 g sy) := hg.gr G0.out hgS
  have hBS : w.heap.size ≠ S := by have := hs.lt; omega
  have hb0 : b < W0.heap.size := Nat.lt_of_lt_of_le hb G0.out.size
  have HW : Hid (_ = W0) := hW
  have HF : Hid _ := hF
  have HBT : Hid _ := hbt
  clear hs hg hT hW hF hbt hpow
  obtain ⟨a1, ha1⟩ : ∃ a, LE k = a := ⟨_, rfl⟩
  obtain ⟨a2, ha2⟩ : ∃ a, DE kd = a := ⟨_, rfl⟩
  obtain ⟨b1, hb1⟩ : ∃ a, LB k = a := ⟨_, rfl⟩
  obtain ⟨b2, hb2⟩ : ∃ a, DB kd = a := ⟨_, rfl⟩
  have q1 := T0.out.2.1 k (by omega)
  rw [ha1] at q1 hle ht hm1 hm2 HBT ⊢
  rw [ha2] at hde ht hm2 ⊢
  rw [hb1] at hlb ⊢
  rw [hb2] at hdb ⊢
  have A2 : Hid (DE kd = a2) := ha2
  have B1 : Hid (LB k = b1) := hb1
  have B2 : Hid (DB kd = b2) := hb2
  clear ha1 ha2 hb1 hb2
  go_enter Tryd.func79, Tryd.ntmps79
  go_upto_region 4 with fail
  rw [HW.out]
  go_wp2_with fail
  refine (takeNumber_any W0 S b cap ds t a1 hl h8 (by omega) S0.out (by omega)).mono ?_
  rintro e w2 ⟨rfl, s2, g2⟩
  obtain ⟨m1, hm⟩ : ∃ m, rdN ds t a1 = m := ⟨_, rfl⟩
  rw [hm] at hm1 ⊢
  have M1 : Hid (_ = m1) := hm
  have S2 : Hid (Src w2 S b cap ds (t + a1)) := s2
  have G2 : Hid (Gr S w w2) := G0.out.trans g2
  have T2 : Hid (Tabs w2) := T0.out.gr g2 hS4 S0.out.lt
  have Sy2 : Hid (SyAt w2 g sy) := Sy0.out.gr g2 hgS
  have hBK := BK.out.gr g2 hBS
  have hb2 : b < w2.heap.size := Nat.lt_of_lt_of_le hb0 g2.size
  have q0 := T2.out.1 k (by omega)
  rw [B1.out] at q0
  have c0 := hBK.cnt 0 (by omega)
  have c1 := hBK.cnt 1 (by omega)
  have c2 := hBK.cnt 2 (by omega)
  have c3 := hBK.cnt 3 (by omega)
  have c4 := hBK.cnt 4 (by omega)
  have c5 := hBK.cnt 5 (by omega)
  have c6 := hBK.cnt 6 (by omega)
  have c7 := hBK.cnt 7 (by omega)
  have c8 := hBK.cnt 8 (by omega)
  have c9 := hBK.cnt 9 (by omega)
  have c10 := hBK.cnt 10 (by omega)
  have c11 := hBK.cnt 11 (by omega)
  have c12 := hBK.cnt 12 (by omega)
  have c13 := hBK.cnt 13 (by omega)
  have c14 := hBK.cnt 14 (by omega)
  have c15 := hBK.cnt 15 (by omega)
  have c16 := hBK.syc
  clear s2 g2 q1 hm hBK
  go_wp2_with fail
  have HY := takeSymbol_any w2 S b cap ds (t + a1) cn g cp sy c L kd hl h8 hcn HF.out hc S2.out hb2 Sy2.out hgS (by omega) HBT.out
  unfold bookV at HY
  refine Calls.mono HY ?_
  clear HY c0 c1 c2 c3 c4 c5 c6 c7 c8 c9 c10 c11 c12 c13 c14 c15 c16 q0
  rintro e w3 ⟨rfl, s3, g3⟩
  have S3 : Hid (Src w3 S b cap ds (t + a1 + L)) := s3
  have G3 : Hid (Gr S w w3) := G2.out.trans g3
  have T3 : Hid (Tabs w3) := T2.out.gr g3 hS4 S2.out.lt
  have q3 := T3.out.2.2.2.1 kd (by omega)
  rw [A2.out] at q3
  clear s3 g3
  go_wp2_with fail
  refine (takeNumber_any w3 S b cap ds (t + a1 + L) a2 hl h8 (by omega) S3.out (by omega)).mono ?_
  rintro e w4 ⟨rfl, s4, g4⟩
  obtain ⟨m2, hm⟩ : ∃ m, rdN ds (t + a1 + L) a2 = m := ⟨_, rfl⟩
  rw [hm] at hm2 ⊢
  have M2 : Hid (_ = m2) := hm
  have S4 : Hid (Src w4 S b cap ds (t + a1 + L + a2)) := s4
  have G4 : Hid (Gr S w w4) := G3.out.trans g4
  have T4 : Hid (Tabs w4) := T3.out.gr g4 hS4 S3.out.lt
  have q2 := T4.out.2.2.1 kd (by omega)
  rw [B2.out] at q2
  clear s4 g4 q3 hm
  go_wp2
  go_region
  go_wp2
  go_returns
  exact ⟨by rw [M1.out, M2.out, Int.natCast_add, Int.natCast_add]; rfl, S4.out.drew 1, G4.out.trans (gr_dn _ _ 1)⟩
end Go.Proofs.YtaeicgfebeliiaaDoor
