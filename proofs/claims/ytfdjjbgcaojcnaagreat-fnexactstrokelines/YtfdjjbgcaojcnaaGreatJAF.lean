/-
  What the law's helper does that looks for the marks in points; each theorem names its conditions.
  Rows of lines: what the laws' helpers do that hold two against each other, mark one and look for the marks; each theorem names its conditions.
  The program's lists of points: what is added to one; each theorem names its conditions.
  Lines with the values that hold their points; each theorem names its conditions.
-/
import Derived.Test.YtfdjjbgcaojcnaaGreatJAB
import Derived.Test.YtfdjjbgcaojcnaaGreatJAE
import Derived.Deep.RegionWith
import Derived.Test.YtfdjjbgcaojcnaaGreatJAD
namespace Go.Proofs.YtfdjjbgcaojcnaaGreat
open Go.ChangeShapes Go.WideShapes Go.ChangeAt Go.RowKit
set_option linter.unusedVariables false

set_option maxHeartbeats 1000000 in
theorem heldPt_any (w : World) (g c K n : Nat) (hl : n ≤ 1048576) (hK2 : K ≤ 50000000) (h : LayPt w g (mkP K n) n) :
    Calls Tryz.prog 56 #[.slice (some ⟨g, 0, none⟩) n c, .int .i64 (K : Int)] w fun e w' => e = .returned (.int .i64 ((K + 2 * n : Nat) : Int)) ∧ w' = w := by
  have HS : Hid (LayPt w g (mkP K n) n) := h
  clear h
  go_enter Tryz.func56, Tryz.ntmps56
  go_wp2
  go_loop [1, 5] (fun x i => ∃ j : Nat, j ≤ n ∧ i = .int .i64 j ∧ x = .int .i64 ((K + 2 * j : Nat) : Int)) (fun _ i => n - (intOf i).toNat)
  case atStart => exact ⟨0, Nat.zero_le _, rfl, rfl⟩
  case round =>
    obtain ⟨j, hj, rfl, rfl⟩ := hrel
    by_cases hlt : j < n
    · obtain ⟨c0, c1⟩ := HS.out.2.1 j hlt
      rw [mkP_at K n j hlt] at c0 c1
      have e1 : ((K + 2 * j + 1 : Nat) : Int) = ((K + 2 * j : Nat) : Int) + 1 := by omega
      simp only [e1] at c1
      have hb : ((K + 2 * j : Nat) : Int) ≤ 100000000 := by omega
      have hb0 : 0 ≤ ((K + 2 * j : Nat) : Int) := by omega
      have HJ : Hid (((K + 2 * (j + 1) : Nat) : Int) = ((K + 2 * j : Nat) : Int) + 1 + 1) := by show _ = _; omega
      generalize ((K + 2 * j : Nat) : Int) = Z at *
      have hne : (Z != Z) = false := by simp
      have hne2 : (Z + 1 != Z + 1) = false := by simp
      go_wp2
      go_round
      case rel => exact ⟨j + 1, by omega, by go_num, by rw [HJ.out]⟩
      case measure => simp [intOf]; omega
    · have e : j = n := by omega
      subst e
      go_wp2
      go_ret
      exact ⟨rfl, rfl⟩
theorem heldPt_nil (w : World) (K : Nat) (hK2 : K ≤ 50000000) :
    Calls Tryz.prog 56 #[.slice none 0 0, .int .i64 (K : Int)] w fun e w' => e = .returned (.int .i64 (K : Int)) ∧ w' = w := by
  go_enter Tryz.func56, Tryz.ntmps56
  go_wp2
  go_loop [1, 5] (fun x i => x = .int .i64 (K : Int) ∧ i = .int .i64 0) (fun _ _ => 0)
  case atStart => exact ⟨rfl, rfl⟩
  case round =>
    obtain ⟨rfl, rfl⟩ := hrel
    go_wp2
    go_ret
    exact ⟨rfl, rfl⟩
end Go.Proofs.YtfdjjbgcaojcnaaGreat
namespace Go.Proofs.YtfdjjbgcaojcnaaGreat
open Go.ChangeShapes Go.WideShapes Go.ChangeAt Go.RowKit
set_option linter.unusedVariables false

theorem heldPt_v (w : World) (v : Value) (n K : Nat) (hl : n ≤ 1048576) (hK2 : K ≤ 50000000) (h : Mkd w v n K) :
    Calls Tryz.prog 56 #[v, .int .i64 (K : Int)] w fun e w' => e = .returned (.int .i64 ((K + 2 * n : Nat) : Int)) ∧ w' = w := by
  rcases h with ⟨rfl, rfl⟩ | ⟨g, c, rfl, h2⟩
  · refine (heldPt_nil w K hK2).mono ?_
    rintro e w' ⟨rfl, rfl⟩
    exact ⟨rfl, rfl⟩
  · exact heldPt_any w g c K n hl hK2 h2
set_option maxHeartbeats 4000000 in
theorem heldLineS_any (w : World) (g c : Nat) (vs : List Value) (ns : List Nat) (K : Nat) (hn : vs.length ≤ 1048576) (hk : ∀ i, i < vs.length → nAt ns i ≤ 1048576) (hK : kAt ns K vs.length ≤ 40000000) (h : MkLn w g vs ns K vs.length) :
    Calls Tryz.prog 20 #[.slice (some ⟨g, 0, none⟩) vs.length c, .int .i64 (K : Int)] w fun e w' => e = .returned (.int .i64 (kAt ns K vs.length : Int)) ∧ w' = w := by
  have HK : Hid (∀ i, i < vs.length → nAt ns i ≤ 1048576) := hk
  have HH : Hid (MkLn w g vs ns K vs.length) := h
  clear hk h
  go_enter Tryz.func20, Tryz.ntmps20
  go_wp2
  go_loop [1, 5] (fun x i => ∃ j : Nat, j ≤ vs.length ∧ i = .int .i64 j ∧ x = .int .i64 (kAt ns K j : Int)) (fun _ i => vs.length - (intOf i).toNat)
  case atStart => exact ⟨0, Nat.zero_le _, rfl, rfl⟩
  case round =>
    obtain ⟨j, hj, rfl, rfl⟩ := hrel
    by_cases hlt : j < vs.length
    · have q0 := HH.out.sl j hlt
      have q1 := HH.out.c1 j hlt hlt
      have hkj : kAt ns K (j + 1) ≤ kAt ns K vs.length := kAt_mono ns K hlt
      have HE : Hid (kAt ns K (j + 1) = kAt ns K j + 2 * nAt ns j + 1) := rfl
      have hkj2 : kAt ns K j + 2 * nAt ns j + 1 ≤ 40000000 := by have := HE.out; omega
      have HC : Hid _ := heldPt_v w (vAt vs j) (nAt ns j) (kAt ns K j) (HK.out j hlt) (by omega) (HH.out.p1 j hlt hlt)
      obtain ⟨va, vc, hv⟩ := (HH.out.p1 j hlt hlt).form
      rw [hv] at q0 HC
      rw [clB_at] at q1
      generalize nAt ns j = n at *
      generalize kAt ns K j = k at *
      clear hv
      have hkz : 0 ≤ ((k + 2 * n : Nat) : Int) ∧ ((k + 2 * n : Nat) : Int) ≤ 40000000 := by omega
      have HZ : Hid (((k + 2 * n + 1 : Nat) : Int) = ((k + 2 * n : Nat) : Int) + 1) := by show _ = _; omega
      generalize ((k + 2 * n : Nat) : Int) = Z at *
      have hz0 : decide (Z < 0) = false := decide_eq_false (by omega)
      have hbb : ((Z % 3 == 0) != (Z % 3 == 0)) = false := by cases (Z % 3 == 0) <;> rfl
      go_wp2_with fail
      refine Calls.mono HC.out ?_
      rintro e w1 ⟨rfl, rfl⟩
      clear HC
      go_wp2
      go_round
      case rel => exact ⟨j + 1, by omega, by go_num, by rw [HE.out, HZ.out]⟩
      case measure => simp [intOf]; omega
    · have e : j = vs.length := by omega
      subst e
      go_wp2
      go_ret
      exact ⟨rfl, rfl⟩
theorem heldLineS_nil (w : World) (K : Nat) (hK : K ≤ 40000000) : Calls Tryz.prog 20 #[.slice none 0 0, .int .i64 (K : Int)] w fun e w' => e = .returned (.int .i64 (K : Int)) ∧ w' = w := by
  go_enter Tryz.func20, Tryz.ntmps20
  go_wp2
  go_loop [1, 5] (fun x i => x = .int .i64 (K : Int) ∧ i = .int .i64 0) (fun _ _ => 0)
  case atStart => exact ⟨rfl, rfl⟩
  case round =>
    obtain ⟨rfl, rfl⟩ := hrel
    go_wp2
    go_ret
    exact ⟨rfl, rfl⟩
end Go.Proofs.YtfdjjbgcaojcnaaGreat
namespace Go.Proofs.YtfdjjbgcaojcnaaGreat
open Go.ChangeShapes Go.WideShapes Go.ChangeAt Go.RowKit
set_option linter.unusedVariables false

theorem under_pts : Tryz.prog.underlying 23 = some (.slice 34) := Tryz.underlying23
theorem under_lpts : Tryz.prog.underlying 64 = some (.slice 34) := by kernel_rfl
/-- The points its lie from the place off of the block g on. -/
def LieP (w : World) (g off : Nat) (its : List Pnt) : Prop := g < w.heap.size ∧ ∀ i, i < its.length → w.cell? ⟨g, off + i * 2, none⟩ = some (.int .i64 (ptAt its i).1) ∧ w.cell? ⟨g, off + i * 2 + 1, none⟩ = some (.int .i64 (ptAt its i).2)
theorem LieP.vv {w : World} {g off : Nat} {its : List Pnt} (h : LieP w g off its) : ∀ i, i < (vP its).length → w.cell? ⟨g, off + i * 2, none⟩ = some (vvAt (vP its) i).1 ∧ w.cell? ⟨g, off + i * 2 + 1, none⟩ = some (vvAt (vP its) i).2 := fun i hi => by
  rw [vP_len] at hi
  rw [vP_at its i hi]
  exact h.2 i hi
theorem LieP.nw {w w' : World} {g off : Nat} {its : List Pnt} (h : LieP w g off its) (k : Nw w w') : LieP w' g off its :=
  ⟨Nat.lt_of_lt_of_le h.1 (Below.size k), fun i hi => ⟨((bcell k).1 _ _ h.1).trans (h.2 i hi).1, ((bcell k).1 _ _ h.1).trans (h.2 i hi).2⟩⟩
theorem Pts.lie {w : World} {a : Option Addr} {l : List Pnt} (h : Pts w a l) (hn : 0 < l.length) : ∃ g off, a = some ⟨g, off, none⟩ ∧ LieP w g off l := by
  rcases h with h | ⟨b, off, rfl, hb, hc⟩
  · rw [h] at hn; simp at hn
  · exact ⟨b, off, rfl, hb, hc⟩
theorem liep_one (w : World) (x y : Int) (t : TypeId) : LieP (w.alloc (.cells #[.int .i64 x, .int .i64 y] t)) w.heap.size 0 [(x, y)] := by
  refine ⟨by simp, fun i hi => ?_⟩
  have : i = 0 := by simp at hi; omega
  subst this
  simp [ptAt]
set_option maxHeartbeats 1000000 in
theorem iaddP (w : World) (b o B : Nat) (v : Value) (l its : List Pnt) (g off m c : Nat) (hm : m = its.length) (hbox : w.cell? ⟨b, o, none⟩ = some v) (hfr : w.frozen? ⟨b, o, none⟩ = false) (hown : OwnP w B v l) (hits : LieP w g off its)
    (hn : 0 < its.length) (hlen : l.length + its.length ≤ 1000000) (hB : B ≤ w.heap.size) (hne : v.ownBlock ≠ some b) :
    Calls Tryz.prog 61 #[.pointer (some ⟨b, o, none⟩), .slice (some ⟨g, off, none⟩) m c] w fun e w' => e = .returned (.tuple #[]) ∧ ∃ g' c' w1, OwnP w1 B (.slice (some ⟨g', 0, none⟩) (l ++ its).length c') (l ++ its) ∧ Ext v (.slice (some ⟨g', 0, none⟩) (l ++ its).length c') w w1 ∧ w' = w1.setCell ⟨b, o, none⟩ (.slice (some ⟨g', 0, none⟩) (l ++ its).length c') := by
  subst hm
  have hb : b < w.heap.size := World.block_lt_of_cell? w ⟨b, o, none⟩ hbox
  obtain ⟨sa, sn, sc, rfl⟩ := OwnQ.slice hown
  have HO : Hid (OwnP w B (.slice sa sn sc) l) := hown
  have HI : Hid _ := hits.vv
  have HB : Hid (B ≤ w.heap.size) := hB
  have HN : Hid (0 < its.length) := hn
  have HL : Hid (l.length + its.length ≤ 1000000) := hlen
  have HE : Hid ((Value.slice sa sn sc).ownBlock ≠ some b) := hne
  clear hown hits hB hn hlen hne
  go_enter Tryz.func61, Tryz.ntmps61
  go_wp2_with (at_builtin; (refine wpl_q 34 64 23 (.int .i64 0) (.int .i64 0) 16 under_lpts under_pts Tryz.info34 (by decide) rfl w (.tmp 7) (.tmp 8) rfl B (.slice sa sn sc) (vP l) (vP its) rfl HO.out g off its.length c (vP_len its).symm rfl HI.out (vP_one its) (by rw [vP_len]; exact HN.out) ?cl HB.out rfl ?_))
  case cl => rw [vP_len, vP_len]; have := HL.out; omega
  intro g' c' w1 h2 h3
  rw [vP_len, ← vP_append] at h2
  rw [vP_len] at h3
  have y0 : w1.cell? ⟨b, o, none⟩ = some (.slice sa sn sc) := (Ext.cell h3 hb HE.out o).trans hbox
  have y1 : w1.frozen? ⟨b, o, none⟩ = false := (World.frozen?_of_block (w := w) (a := ⟨b, o, none⟩) (h3.1.block b hb (fun e => HE.out e.symm))).trans hfr
  have H2 : Hid _ := h2
  have H3 : Hid _ := h3
  rw [vP_len]
  clear h2 h3 hbox hfr
  go_wp2
  go_end0
  refine ⟨rfl, g', c', w1, ?_, ?_, ?_⟩
  · rw [List.length_append]; exact H2.out
  · rw [List.length_append]; exact H3.out
  · rw [List.length_append]
/-- A list of points of the call's own in a variable: the block bx. -/
def LV (bx : Nat) (w : World) (l : List Pnt) : Prop := ∃ v, w.cell? ⟨bx, 0, none⟩ = some v ∧ (∀ o, w.frozen? ⟨bx, o, none⟩ = false) ∧ OwnP w (bx + 1) v l
theorem LV.lt {bx : Nat} {w : World} {l : List Pnt} (h : LV bx w l) : bx < w.heap.size := by
  obtain ⟨v, h1, _⟩ := h
  exact World.block_lt_of_cell? w ⟨bx, 0, none⟩ h1
theorem LV.nw {bx : Nat} {w w' : World} {l : List Pnt} (h : LV bx w l) (k : Nw w w') : LV bx w' l := by
  have hb := h.lt
  obtain ⟨v, h1, h2, h3⟩ := h
  exact ⟨v, ((bcell k).1 _ _ hb).trans h1, fun o => ((bcell k).2 _ _ hb).trans (h2 o), h3.nw k⟩
theorem LV.new (w : World) (t : TypeId) : LV w.heap.size (w.alloc (.cells #[.slice none 0 0] t)) [] :=
  ⟨.slice none 0 0, by simp, fun o => World.frozen?_alloc_at _ _ _ _ rfl, OwnP.nil _ _⟩
theorem LV.val {bx : Nat} {w : World} {l : List Pnt} (h : LV bx w l) : ∃ a c, w.cell? ⟨bx, 0, none⟩ = some (.slice a l.length c) ∧ OwnP w (bx + 1) (.slice a l.length c) l := by
  obtain ⟨v, h1, h2, h3⟩ := h
  obtain ⟨a, c, rfl, _⟩ := h3.pts
  exact ⟨a, c, h1, h3⟩
theorem Nw.below {b : Nat} {w w' : World} (h : Nw w w') (hb : b ≤ w.heap.size) : Below b w w' := Below.mono h hb
theorem iadd_lv (w : World) (bx : Nat) (l its : List Pnt) (g off m c : Nat) (hm : m = its.length) (h : LV bx w l) (hits : LieP w g off its) (hn : 0 < its.length) (hlen : l.length + its.length ≤ 1000000) :
    Calls Tryz.prog 61 #[.pointer (some ⟨bx, 0, none⟩), .slice (some ⟨g, off, none⟩) m c] w fun e w' => e = .returned (.tuple #[]) ∧ LV bx w' (l ++ its) ∧ Below bx w w' := by
  have hb := h.lt
  obtain ⟨v, h1, h2, h3⟩ := h
  have hne : v.ownBlock ≠ some bx := fun e => by have := (OwnQ.lt h3 bx e).1; omega
  refine (iaddP w bx 0 (bx + 1) v l its g off m c hm h1 (h2 0) h3 hits hn hlen (by omega) hne).mono ?_
  rintro e w' ⟨rfl, g', c', w1, k1, k2, rfl⟩
  have hne2 : (Value.slice (some ⟨g', 0, none⟩) (l ++ its).length c').ownBlock ≠ some bx := Ext.apart k2 hb hne
  have hf : ∀ o, w1.frozen? ⟨bx, o, none⟩ = false := fun o => (World.frozen?_of_block (w := w) (a := ⟨bx, o, none⟩) (k2.1.block bx hb (fun e => hne e.symm))).trans (h2 o)
  refine ⟨rfl, ⟨_, World.cell?_setCell_same w1 ⟨bx, 0, none⟩ _ ((Ext.cell k2 hb hne 0).trans h1), fun o => by rw [World.frozen?_setCell]; exact hf o, OwnQ.far k1 bx 0 _ hne2⟩, ?_⟩
  exact (k2.below (fun g e => Nat.le_of_succ_le (OwnQ.lt h3 g e).1) (by omega)).setCell (Nat.le_refl _) _
/-- One point, in a block of its own. -/
theorem iadd_one (w : World) (bx : Nat) (l : List Pnt) (x y : Int) (t : TypeId) (h : LV bx w l) (hlen : l.length + 1 ≤ 1000000) :
    Calls Tryz.prog 61 #[.pointer (some ⟨bx, 0, none⟩), .slice (some ⟨w.heap.size, 0, none⟩) 1 1] (w.alloc (.cells #[.int .i64 x, .int .i64 y] t)) fun e w' => e = .returned (.tuple #[]) ∧ LV bx w' (l ++ [(x, y)]) ∧ Below bx w w' := by
  have n1 : Nw w (w.alloc (.cells #[.int .i64 x, .int .i64 y] t)) := (Below.refl _ _).alloc (Nat.le_refl _) _
  refine (iadd_lv _ bx l [(x, y)] w.heap.size 0 1 1 rfl (h.nw n1) (liep_one w x y t) (by simp) (by simpa using hlen)).mono ?_
  rintro e w' ⟨rfl, k1, k2⟩
  exact ⟨rfl, k1, Below.trans (n1.below (Nat.le_of_lt h.lt)) k2⟩
end Go.Proofs.YtfdjjbgcaojcnaaGreat
namespace Go.Proofs.YtfdjjbgcaojcnaaGreat
open Go.ChangeShapes Go.WideShapes Go.ChangeAt Go.RowKit
set_option linter.unusedVariables false

/-- Lines, each with what holds its points. -/
abbrev Its := List (Value × LD)
def itAt (it : Its) (i : Nat) : Value × LD := it.getD i (undef, noLD)
theorem ld_at (it : Its) (i : Nat) (h : i < it.length) : lnAt (it.map (·.2)) i = (itAt it i).2 := by simp [lnAt, itAt, h]
def vsOf (it : Its) : List Value := it.map (·.1)
def nsOf (it : Its) : List Nat := it.map fun p => p.2.pts.length
theorem vsOf_at (it : Its) (i : Nat) (h : i < it.length) : vAt (vsOf it) i = (itAt it i).1 := by simp [vAt, vsOf, itAt, h]
theorem nsOf_at (it : Its) (i : Nat) (h : i < it.length) : nAt (nsOf it) i = (itAt it i).2.pts.length := by simp [nAt, nsOf, itAt, h]
theorem info_line : (Tryz.prog.info? 25).map (fun i => (i.zero, i.size, i.bytes)) = some (some (.agg #[.slice none 0 0, .bool false]), 2, 32) := by kernel_rfl
theorem itAt_old (it : Its) (x : Value × LD) (i : Nat) (h : i < it.length) : itAt (it ++ [x]) i = itAt it i := by simp [itAt, List.getElem?_append, h]
theorem itAt_new (it : Its) (x : Value × LD) : itAt (it ++ [x]) it.length = x := by simp [itAt]
end Go.Proofs.YtfdjjbgcaojcnaaGreat
