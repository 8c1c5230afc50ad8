/-
  Fixed numbers: GoodFixed of both, for all ints; no condition
-/
import Derived.Test.YtnkeljmecbohkaaGreatJAA
namespace Go.Proofs.YtnkeljmecbohkaaGreat
open Go.ChangeShapes Go.WideShapes Go.ChangeAt Go.RowKit
set_option linter.unusedVariables false
def fixB (x : Int) : Bool := decide (-1099511627776 ≤ x) && decide (x ≤ 1099511627776)
theorem fixB_iff {x : Int} : fixB x = true ↔ -1099511627776 ≤ x ∧ x ≤ 1099511627776 := by unfold fixB; simp
theorem igoodF (x : Int) (w : World) : Calls Tryz.prog 112 #[.int .i64 x] w fun e w' => e = .returned (.bool (fixB x)) ∧ w' = w := by
 go_enter Tryz.func112, Tryz.ntmps112
 go_wp2
 all_goals
  go_ret
  exact ⟨ret_bool (by unfold fixB; rw [Bool.eq_iff_iff]; simp; omega), rfl⟩
def ptB (p : Pnt) : Bool := fixB p.1 && fixB p.2
def ptsB (l : List Pnt) : Bool := l.all ptB
set_option maxHeartbeats 1000000 in
theorem iall_any (w : World) (b off c : Nat) (zs : List Int) (hl : zs.length ≤ 1048576) (hc : ∀ i, i < zs.length → w.cell? ⟨b, off + i, none⟩ = some (.int .i64 (zs.getD i 0))) :
  Calls Tryz.prog 125 #[.slice (some ⟨b, off, none⟩) zs.length c] w fun e w' => e = .returned (.bool (zs.all fixB)) ∧ w' = w := by
 obtain ⟨V, hV⟩ : ∃ V, zs.all fixB = V := ⟨_, rfl⟩
 rw [hV]
 have HV : Hid _ := hV
 have HC : Hid _ := hc
 clear hc hV
 go_enter Tryz.func125, Tryz.ntmps125
 go_wp2
 go_loop [7] (fun i => ∃ k : Nat, k ≤ zs.length ∧ i = .int .i64 k ∧ ∀ j, j < k → fixB (zs.getD j 0) = true) (fun i => zs.length - (intOf i).toNat)
 case atStart => exact ⟨0, Nat.zero_le _, rfl, fun j hj => absurd hj (by omega)⟩
 case round =>
  obtain ⟨k, hk, rfl, ha⟩ := hrel
  have HA : Hid _ := ha
  clear ha
  by_cases hlt : k < zs.length
  ·have q := HC.out k hlt
   have hcall : Hid (∀ w, Calls Tryz.prog 112 #[.int .i64 (zs.getD k 0)] w fun e w' => e = .returned (.bool (fixB (zs.getD k 0))) ∧ w' = w) := fun w => igoodF _ w
   obtain ⟨x, hx⟩ : ∃ x, zs.getD k 0 = x := ⟨_, rfl⟩
   have HX : Hid (zs.getD k 0 = x) := hx
   rw [hx] at q hcall
   clear hx
   cases hf : fixB x with
   | true =>
    rw [hf] at hcall
    have HF : Hid (fixB x = true) := hf
    clear hf
    go_wp2_with fail
    refine (hcall.out _).mono ?_
    rintro e w1 ⟨rfl, rfl⟩
    go_wp2
    go_round
    case rel =>
     refine ⟨k + 1, by omega, by go_num, fun j hj => ?_⟩
     rcases Nat.lt_succ_iff_lt_or_eq.1 hj with h | h
     ·exact HA.out j h
     ·rw [h, HX.out]; exact HF.out
    case measure => simp [intOf]; omega
   | false =>
    rw [hf] at hcall
    have HF : Hid (V = false) := HV.out.symm.trans (all_false _ 0 zs k hlt (HX.out ▸ hf))
    clear hf
    go_wp2_with fail
    refine (hcall.out _).mono ?_
    rintro e w1 ⟨rfl, rfl⟩
    go_wp2
    go_ret
    exact ⟨ret_bool HF.out.symm, rfl⟩
  ·have e : k = zs.length := by omega
   have HX : Hid (V = true) := HV.out.symm.trans (all_true _ 0 _ (fun j hj => HA.out j (by omega)))
   clear HA
   go_wp2
   go_ret
   exact ⟨ret_bool HX.out.symm, rfl⟩
theorem iin_any (w : World) (n lo hi : Int) : Calls Tryz.prog 26 #[.int .i64 n, .int .i64 lo, .int .i64 hi] w fun e w' => e = .returned (.bool (decide (lo ≤ n ∧ n ≤ hi))) ∧ w' = w := by
 go_enter Tryz.func26, Tryz.ntmps26
 go_wp2
 all_goals
  go_ret
  exact ⟨ret_bool (by rw [Bool.eq_iff_iff]; simp; omega), rfl⟩
def nrB (x : Int) : Bool := decide (-67108864 ≤ x ∧ x ≤ 67108864)
def nearB (p : Pnt) : Bool := nrB p.1 && nrB p.2
def nearsB (l : List Pnt) : Bool := l.all nearB
def nr (x : Int) : Prop := -67108864 ≤ x ∧ x ≤ 67108864
theorem nrB_iff {x : Int} : nrB x = true ↔ nr x := by unfold nrB nr; simp
theorem nearB_nr {p : Pnt} (h : nearB p = true) : nr p.1 ∧ nr p.2 := by
 unfold nearB at h
 rw [Bool.and_eq_true] at h
 exact ⟨nrB_iff.1 h.1, nrB_iff.1 h.2⟩
theorem nearsB_at {l : List Pnt} (h : nearsB l = true) (i : Nat) (hi : i < l.length) : nearB (ptAt l i) = true := by
 unfold nearsB at h
 rw [List.all_eq_true] at h
 unfold ptAt
 rw [show l.getD i (0, 0) = l[i] by simp [hi]]
 exact h _ (List.getElem_mem hi)
theorem snear (w : World) (x y : Int) : Calls Tryz.prog 38 #[.agg #[.int .i64 x, .int .i64 y]] w fun e w' => e = .returned (.bool (nearB (x, y))) ∧ Kp w w' := by
 have HX : Hid (∀ w, Calls Tryz.prog 36 #[.int .i64 x, .int .i64 (-67108864), .int .i64 67108864] w fun e w' => e = .returned (.bool (nrB x)) ∧ w' = w) := fun w => in_any w x _ _
 have HY : Hid (∀ w, Calls Tryz.prog 36 #[.int .i64 y, .int .i64 (-67108864), .int .i64 67108864] w fun e w' => e = .returned (.bool (nrB y)) ∧ w' = w) := fun w => in_any w y _ _
 have hv : nearB (x, y) = (nrB x && nrB y) := rfl
 rw [hv]
 clear hv
 generalize nrB x = bx at *
 generalize nrB y = by' at *
 cases bx with
 | false =>
  go_enter Tryz.func38, Tryz.ntmps38
  go_wp2_with fail
  refine (HX.out _).mono ?_
  rintro e w1 ⟨rfl, rfl⟩
  go_wp2
  go_ret
  exact ⟨rfl, (Kp.refl w).alloc _ _⟩
 | true =>
  rw [Bool.true_and]
  go_enter Tryz.func38, Tryz.ntmps38
  go_wp2_with fail
  refine (HX.out _).mono ?_
  rintro e w1 ⟨rfl, rfl⟩
  go_wp2_with fail
  refine (HY.out _).mono ?_
  rintro e w1 ⟨rfl, rfl⟩
  go_wp2
  go_ret
  exact ⟨rfl, (Kp.refl w).alloc _ _⟩
set_option maxHeartbeats 1000000 in
theorem inear (w : World) (a : Option Addr) (c : Nat) (l : List Pnt) (hl : l.length ≤ 1048576) (hr : Pts w a l) :
  Calls Tryz.prog 27 #[.slice a l.length c] w fun e w' => e = .returned (.bool (nearsB l)) ∧ Kp w w' := by
 obtain ⟨V, hV⟩ : ∃ V, nearsB l = V := ⟨_, rfl⟩
 rw [hV]
 have HV : Hid _ := hV
 have HR : Hid (Pts w a l) := hr
 clear hr hV
 go_enter Tryz.func27, Tryz.ntmps27
 go_wp2
 go_loopw [7] (fun i wr => ∃ k : Nat, k ≤ l.length ∧ i = .int .i64 k ∧ (∀ j, j < k → nearB (ptAt l j) = true) ∧ Kp w wr) (fun i _ => l.length - (intOf i).toNat)
 case atStart => exact ⟨0, Nat.zero_le _, rfl, fun j hj => absurd hj (by omega), Kp.refl _⟩
 case round =>
  obtain ⟨k, hk, rfl, ha, hw⟩ := hrel
  have HA : Hid _ := ha
  have HW : Hid (Kp w wr) := hw
  clear ha hw
  by_cases hlt : k < l.length
  ·rcases (HR.out.nw HW.out.nw) with h | ⟨b, off, rfl, hb, hc⟩
   ·rw [h] at hlt; simp at hlt
   obtain ⟨q0, q1⟩ := hc k hlt
   clear hc
   obtain ⟨p, hp⟩ : ∃ p, ptAt l k = p := ⟨_, rfl⟩
   have HP : Hid (ptAt l k = p) := hp
   rw [hp] at q0 q1
   clear hp
   obtain ⟨x, y⟩ := p
   have HX : Hid (∀ w, Calls Tryz.prog 26 #[.int .i64 x, .int .i64 (-67108864), .int .i64 67108864] w fun e w' => e = .returned (.bool (nrB x)) ∧ w' = w) := fun w => iin_any w x _ _
   have HY : Hid (∀ w, Calls Tryz.prog 26 #[.int .i64 y, .int .i64 (-67108864), .int .i64 67108864] w fun e w' => e = .returned (.bool (nrB y)) ∧ w' = w) := fun w => iin_any w y _ _
   have HB : Hid (nearB (ptAt l k) = (nrB x && nrB y)) := by show _ = _; rw [HP.out]; rfl
   generalize nrB x = bx at *
   generalize nrB y = by' at *
   cases bx with
   | false =>
    have HF : Hid (V = false) := HV.out.symm.trans (all_false _ (0, 0) l k hlt HB.out)
    go_wp2_with fail
    refine (HX.out _).mono ?_
    rintro e w1 ⟨rfl, rfl⟩
    go_wp2
    go_ret
    exact ⟨ret_bool HF.out.symm, HW.out.alloc _ _⟩
   | true =>
    rw [Bool.true_and] at HB
    cases by' with
    | false =>
     have HF : Hid (V = false) := HV.out.symm.trans (all_false _ (0, 0) l k hlt HB.out)
     go_wp2_with fail
     refine (HX.out _).mono ?_
     rintro e w1 ⟨rfl, rfl⟩
     go_wp2_with fail
     refine (HY.out _).mono ?_
     rintro e w1 ⟨rfl, rfl⟩
     go_wp2
     go_ret
     exact ⟨ret_bool HF.out.symm, HW.out.alloc _ _⟩
    | true =>
     go_wp2_with fail
     refine (HX.out _).mono ?_
     rintro e w1 ⟨rfl, rfl⟩
     go_wp2_with fail
     refine (HY.out _).mono ?_
     rintro e w1 ⟨rfl, rfl⟩
     go_wp2
     go_roundw
     case rel =>
      refine ⟨k + 1, by omega, by go_num, fun j hj => ?_, HW.out.alloc _ _⟩
      rcases Nat.lt_succ_iff_lt_or_eq.1 hj with h | h
      ·exact HA.out j h
      ·rw [h]; exact HB.out
     case measure => simp [intOf]; omega
  ·have HX : Hid (V = true) := HV.out.symm.trans (all_true _ (0, 0) _ (fun j hj => HA.out j (by omega)))
   clear HA
   go_wp2
   go_ret
   exact ⟨ret_bool HX.out.symm, HW.out⟩
theorem pts2_new (W : World) (ax ay bx by' : Int) (t : TypeId) : Pts (W.alloc (.cells #[.int .i64 ax, .int .i64 ay, .int .i64 bx, .int .i64 by'] t)) (some ⟨W.heap.size, 0, none⟩) [(ax, ay), (bx, by')] := by
 refine Or.inr ⟨_, 0, rfl, by simp, fun i hi => ?_⟩
 have : i = 0 ∨ i = 1 := by simp at hi; omega
 rcases this with rfl | rfl
 ·simp [ptAt]
 ·simp [ptAt]
theorem boxes2 {w w1 : World} {ax ay bx by' : Int} {t1 t2 : TypeId} (h : Kp ((w.alloc (.cells #[.int .i64 ax, .int .i64 ay] t1)).alloc (.cells #[.int .i64 bx, .int .i64 by'] t2)) w1) :
  (w1.cell? ⟨w.heap.size, 0, none⟩ = some (.int .i64 ax) ∧ w1.cell? ⟨w.heap.size, 1, none⟩ = some (.int .i64 ay)) ∧ (w1.cell? ⟨w.heap.size + 1, 0, none⟩ = some (.int .i64 bx) ∧ w1.cell? ⟨w.heap.size + 1, 1, none⟩ = some (.int .i64 by')) ∧ w.heap.size + 1 < w1.heap.size := by
 have hs0 : w.heap.size < ((w.alloc (.cells #[.int .i64 ax, .int .i64 ay] t1)).alloc (.cells #[.int .i64 bx, .int .i64 by'] t2)).heap.size := by simp; omega
 have hs : w.heap.size + 1 < ((w.alloc (.cells #[.int .i64 ax, .int .i64 ay] t1)).alloc (.cells #[.int .i64 bx, .int .i64 by'] t2)).heap.size := by simp
 exact ⟨⟨(h.cells.1 w.heap.size 0 hs0).trans (by simp [World.cell?_alloc_past]), (h.cells.1 w.heap.size 1 hs0).trans (by simp [World.cell?_alloc_past])⟩, ⟨(h.cells.1 (w.heap.size + 1) 0 hs).trans (by simp), (h.cells.1 (w.heap.size + 1) 1 hs).trans (by simp)⟩, Nat.lt_of_lt_of_le hs h.size⟩
def sml (x : Int) : Prop := -1099511627776 ≤ x ∧ x ≤ 1099511627776
theorem nr_sml {x : Int} (h : nr x) : sml x := by unfold nr at h; unfold sml; omega
theorem iminus (w : World) (x1 y1 x2 y2 : Int) (h1 : sml x1) (h2 : sml y1) (h3 : sml x2) (h4 : sml y2) :
  Calls Tryz.prog 76 #[.agg #[.int .i64 x1, .int .i64 y1], .agg #[.int .i64 x2, .int .i64 y2]] w fun e w' => e = .returned (.agg #[.int .i64 (x1 - x2), .int .i64 (y1 - y2)]) ∧ Kp w w' := by
 unfold sml at *
 go_enter Tryz.func76, Tryz.ntmps76
 go_wp2
 refine bodyPost_ret (v := .agg #[.int .i64 (x1 - x2), .int .i64 (y1 - y2)]) (by simp [results, Tryz.results76, go_sem]) rfl ⟨rfl, ?_⟩
 exact (((Kp.refl w).alloc _ _).alloc _ _).alloc _ _
theorem box2 {x y : Value} {t : TypeId} (w wr : World) (k : Kp (w.alloc (.cells #[x, y] t)) wr) :
  wr.cell? ⟨w.heap.size, 0, none⟩ = some x ∧ wr.cell? ⟨w.heap.size, 1, none⟩ = some y ∧ (∀ o, wr.frozen? ⟨w.heap.size, o, none⟩ = false) ∧ w.heap.size < wr.heap.size := by
 have hs : w.heap.size < (w.alloc (.cells #[x, y] t)).heap.size := by simp
 refine ⟨(k.cells.1 _ _ hs).trans (by simp), (k.cells.1 _ _ hs).trans (by simp), fun o => (k.cells.2 _ _).trans (World.frozen?_alloc_at _ _ _ _ rfl), Nat.lt_of_lt_of_le hs k.size⟩
theorem zbox (w wr : World) (t : TypeId) (k : Kp (w.alloc (.cells #[.int .i64 0, .int .i64 0] t)) wr) :
  wr.cell? ⟨w.heap.size, 0, none⟩ = some (.int .i64 0) ∧ wr.cell? ⟨w.heap.size, 1, none⟩ = some (.int .i64 0) ∧ (∀ o, wr.frozen? ⟨w.heap.size, o, none⟩ = false) ∧ w.heap.size < wr.heap.size := box2 w wr k
theorem nbox2 {x y : Value} {t : TypeId} (w wr : World) (k : Nw (w.alloc (.cells #[x, y] t)) wr) :
  wr.cell? ⟨w.heap.size, 0, none⟩ = some x ∧ wr.cell? ⟨w.heap.size, 1, none⟩ = some y ∧ (∀ o, wr.frozen? ⟨w.heap.size, o, none⟩ = false) ∧ w.heap.size < wr.heap.size := by
 have hs : w.heap.size < (w.alloc (.cells #[x, y] t)).heap.size := by simp
 refine ⟨((bcell k).1 _ _ hs).trans (by simp), ((bcell k).1 _ _ hs).trans (by simp), fun o => ((bcell k).2 _ _ hs).trans (World.frozen?_alloc_at _ _ _ _ rfl), Nat.lt_of_lt_of_le hs (Below.size k)⟩
theorem kp_box {w wr : World} {o : Array Value} {t : TypeId} (k : Kp (w.alloc (.cells o t)) wr) : Kp w wr := Kp.trans ((Kp.refl w).alloc _ _) k
theorem nw_box {w wr : World} {o : Array Value} {t : TypeId} (k : Nw (w.alloc (.cells o t)) wr) : Nw w wr := Nw.trans ((Below.refl _ _).alloc (Nat.le_refl _) _) k
theorem set2 (w : World) (g : Nat) (x y : Value) {u v : Value} (h0 : w.cell? ⟨g, 0, none⟩ = some u) (h1 : w.cell? ⟨g, 1, none⟩ = some v) :
  ((w.setCell ⟨g, 0, none⟩ x).setCell ⟨g, 1, none⟩ y).cell? ⟨g, 0, none⟩ = some x ∧ ((w.setCell ⟨g, 0, none⟩ x).setCell ⟨g, 1, none⟩ y).cell? ⟨g, 1, none⟩ = some y := by
 refine ⟨?_, World.cell?_setCell_same _ ⟨g, 1, none⟩ _ ((World.cell?_setCell_other _ _ _ _ (fun h => by injection h; omega)).trans h1)⟩
 rw [World.cell?_setCell_other _ _ _ _ (fun h => by injection h; omega)]
 exact World.cell?_setCell_same w ⟨g, 0, none⟩ _ h0
end Go.Proofs.YtnkeljmecbohkaaGreat
