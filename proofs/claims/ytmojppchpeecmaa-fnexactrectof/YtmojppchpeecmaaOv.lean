/-
  Points of circles, of both; each theorem names its conditions.
-/
import Derived.Test.YtmojppchpeecmaaPls
import Derived.Test.YtmojppchpeecmaaCos
import Derived.Test.YtmojppchpeecmaaFM
import Derived.Deep.RegionHeld3
namespace Go.Proofs.Ytmojppchpeecmaa
open Go.ChangeShapes Go.WideShapes Go.ChangeAt Go.RowKit
set_option linter.unusedVariables false

def cosV (k : Nat) : Int := asin ((128 * (k : Int) + 1024) % 4096)
def sinV (k : Nat) : Int := asin (128 * (k : Int) % 4096)
/-- The point k of a circle's line. -/
def roundP (cx cy rx ry : Int) (k : Nat) : Pnt := (cx + fmV rx (cosV k), cy + fmV ry (sinV k))
def roundsP (cx cy rx ry : Int) (f n : Nat) : List Pnt := (List.range n).map fun i => roundP cx cy rx ry (f + i)
theorem roundsP_len (cx cy rx ry : Int) (f n : Nat) : (roundsP cx cy rx ry f n).length = n := by simp [roundsP]
theorem roundsP_succ (cx cy rx ry : Int) (f n : Nat) : roundsP cx cy rx ry f (n + 1) = roundsP cx cy rx ry f n ++ [roundP cx cy rx ry (f + n)] := by simp [roundsP, List.range_succ]
theorem icosK (k : Nat) (hk : k ≤ 32) (w : World) : Calls Try.prog 101 #[.int .i64 ((k : Int) * 128)] w fun e w' => e = .returned (.int .i64 (cosV k)) ∧ Kp w w' := by
  have h := icos_any ((k : Int) * 128) w (by omega) (by omega)
  unfold cosV
  rw [Int.mul_comm 128]
  exact h
theorem isinK (k : Nat) (hk : k ≤ 32) (w : World) : Calls Try.prog 102 #[.int .i64 ((k : Int) * 128)] w fun e w' => e = .returned (.int .i64 (sinV k)) ∧ Kp w w' := by
  have h := isin_any ((k : Int) * 128) _ w (by omega) (by omega) rfl
  unfold sinV
  rw [Int.mul_comm 128]
  exact h
theorem scosK (k : Nat) (hk : k ≤ 32) (w : World) : Calls Try.prog 97 #[.int .i64 (128 * (k : Int))] w fun e w' => e = .returned (.int .i64 (cosV k)) ∧ Kp w w' :=
  scos_any (128 * (k : Int)) w (by omega) (by omega)
theorem ssinK (k : Nat) (hk : k ≤ 32) (w : World) : Calls Try.prog 98 #[.int .i64 (128 * (k : Int))] w fun e w' => e = .returned (.int .i64 (sinV k)) ∧ Kp w w' := by
  unfold sinV
  by_cases h : k < 32
  · rw [Int.emod_eq_of_lt (by omega) (by omega)]
    exact ssin_any (128 * (k : Int)) w (by omega) (by omega)
  · obtain rfl : k = 32 := by omega
    exact ssin_low 4096 0 0 w (by omega) (by omega) (by decide) (by omega) (by omega) (by omega)
theorem sinV_bd (k : Nat) : -200000 ≤ sinV k ∧ sinV k ≤ 200000 := by
  unfold sinV asin
  have h : 0 ≤ 128 * (k : Int) % 4096 ∧ 128 * (k : Int) % 4096 < 4096 := by omega
  generalize 128 * (k : Int) % 4096 = a at *
  split
  · have := hsin_bd a (by omega) (by omega); omega
  · have := hsin_bd (a - 2048) (by omega) (by omega); omega
def okO (cx cy rx ry : Int) : Prop := (-1099511627776 ≤ cx ∧ cx ≤ 1099511627776) ∧ (-1099511627776 ≤ cy ∧ cy ≤ 1099511627776)
set_option maxHeartbeats 4000000 in
theorem sround (w : World) (cx cy rx ry : Int) (k : Nat) (hk : k ≤ 32) (c1 : -4398046511104 ≤ cx) (c2 : cx ≤ 4398046511104) (d1 : -4398046511104 ≤ cy) (d2 : cy ≤ 4398046511104) :
    Calls Try.prog 70 #[.int .i64 cx, .int .i64 cy, .int .i64 rx, .int .i64 ry, .int .i64 (k : Int)] w fun e w' => e = .returned (ptV (roundP cx cy rx ry k)) ∧ Kp w w' := by
  have HC : Hid _ := fun w => scosK k hk w
  have HS : Hid _ := fun w => ssinK k hk w
  have HM1 : Hid _ := fun w => sfm rx (cosV k) w
  have HM2 : Hid _ := fun w => sfm ry (sinV k) w
  have b1 := fmV_bd rx (cosV k)
  have b2 := fmV_bd ry (sinV k)
  unfold ptV roundP
  generalize cosV k = vc at *
  generalize sinV k = vs at *
  generalize fmV rx vc = m1 at *
  generalize fmV ry vs = m2 at *
  go_enter Try.func70, Try.ntmps70
  go_wp2_with fail
  refine (HC.out _).mono ?_
  rintro e w1 ⟨rfl, k1⟩
  have K1 : Hid _ := k1
  clear k1
  go_wp2_with fail
  refine (HM1.out _).mono ?_
  rintro e w2 ⟨rfl, k2⟩
  have K2 : Hid _ := Kp.trans K1.out k2
  clear k2
  go_wp2_with fail
  refine (HS.out _).mono ?_
  rintro e w3 ⟨rfl, k3⟩
  have K3 : Hid _ := Kp.trans K2.out k3
  clear k3
  go_wp2_with fail
  refine (HM2.out _).mono ?_
  rintro e w4 ⟨rfl, k4⟩
  have K4 : Hid (Kp (w.alloc (.cells #[.int .i64 0, .int .i64 0] 27)) w4) := Kp.trans K3.out k4
  clear k4
  have hs : w.heap.size < (w.alloc (.cells #[.int .i64 0, .int .i64 0] 27)).heap.size := by simp
  have z0 : w4.cell? ⟨w.heap.size, 0, none⟩ = some (.int .i64 0) := ((Kp.cells K4.out).1 _ _ hs).trans (by simp)
  have z1 : w4.cell? ⟨w.heap.size, 1, none⟩ = some (.int .i64 0) := ((Kp.cells K4.out).1 _ _ hs).trans (by simp)
  have zf : ∀ o, w4.frozen? ⟨w.heap.size, o, none⟩ = false := fun o => ((Kp.cells K4.out).2 _ _).trans (World.frozen?_alloc_at _ _ _ _ rfl)
  clear hs
  go_wp2
  have y1 : ((w4.setCell ⟨w.heap.size, 0, none⟩ (.int .i64 (cx + m1))).setCell ⟨w.heap.size, 1, none⟩ (.int .i64 (cy + m2))).cell? ⟨w.heap.size, 1, none⟩ = some (.int .i64 (cy + m2)) := World.cell?_setCell_same _ ⟨w.heap.size, 1, none⟩ _ ((World.cell?_setCell_other _ _ _ _ (fun h => by injection h; omega)).trans z1)
  have y0 : ((w4.setCell ⟨w.heap.size, 0, none⟩ (.int .i64 (cx + m1))).setCell ⟨w.heap.size, 1, none⟩ (.int .i64 (cy + m2))).cell? ⟨w.heap.size, 0, none⟩ = some (.int .i64 (cx + m1)) := by
    rw [World.cell?_setCell_other _ _ _ _ (fun h => by injection h; omega)]
    exact World.cell?_setCell_same w4 ⟨w.heap.size, 0, none⟩ _ z0
  refine bodyPost_ret (v := .agg #[.int .i64 (cx + m1), .int .i64 (cy + m2)]) (by simp [results, Try.results70, go_sem, y0, y1]) rfl ⟨rfl, ?_⟩
  exact ((Kp.trans ((Kp.refl w).alloc _ _) K4.out).setCell (Nat.le_refl _) _).setCell (Nat.le_refl _) _
/-- The cells of an oval. -/
abbrev Oval (w : World) (b : Nat) (cx cy rx ry : Int) : Prop :=
  w.cell? ⟨b, 0, none⟩ = some (.int .i64 cx) ∧ w.cell? ⟨b, 1, none⟩ = some (.int .i64 cy) ∧ w.cell? ⟨b, 2, none⟩ = some (.int .i64 rx) ∧ w.cell? ⟨b, 3, none⟩ = some (.int .i64 ry)
theorem Oval.below {w w' : World} {b bx : Nat} {cx cy rx ry : Int} (h : Oval w b cx cy rx ry) (k : Below bx w w') (hb : b < bx) : Oval w' b cx cy rx ry :=
  ⟨(k.cell (p := ⟨b, 0, none⟩) hb).trans h.1, (k.cell (p := ⟨b, 1, none⟩) hb).trans h.2.1, (k.cell (p := ⟨b, 2, none⟩) hb).trans h.2.2.1, (k.cell (p := ⟨b, 3, none⟩) hb).trans h.2.2.2⟩
theorem roundsP_at (cx cy rx ry : Int) (f k : Nat) (h : f ≤ k) : roundsP cx cy rx ry f (k + 1 - f) = roundsP cx cy rx ry f (k - f) ++ [roundP cx cy rx ry k] := by
  have e : k + 1 - f = (k - f) + 1 := by omega
  rw [e, roundsP_succ, show f + (k - f) = k by omega]
set_option maxRecDepth 100000 in
set_option maxHeartbeats 8000000 in
theorem istretch (w : World) (cx cy rx ry : Int) (f t : Nat) (hf : f ≤ t) (ht : t ≤ 32) (c1 : -4398046511104 ≤ cx) (c2 : cx ≤ 4398046511104) (d1 : -4398046511104 ≤ cy) (d2 : cy ≤ 4398046511104) :
    Calls Try.prog 73 #[.agg #[.int .i64 cx, .int .i64 cy, .int .i64 rx, .int .i64 ry], .int .i64 (f : Int), .int .i64 (t : Int)] w fun e w' => ∃ v, e = .returned v ∧ OwnP w' w.heap.size v (roundsP cx cy rx ry f (t + 1 - f)) ∧ Nw w w' := by
  obtain ⟨R, hR⟩ : ∃ R : Nat → List Pnt, (fun k => roundsP cx cy rx ry f (k - f)) = R := ⟨_, rfl⟩
  have HR : Hid (∀ k, roundsP cx cy rx ry f (k - f) = R k) := fun k => by rw [← hR]
  rw [HR.out (t + 1)]
  clear hR
  go_enter Try.func73, Try.ntmps73
  go_wp2
  go_loopw [8] (fun i wr => ∃ k : Nat, f ≤ k ∧ k ≤ t + 1 ∧ i = .int .i64 (k : Int) ∧ LV (w.heap.size + 1) wr (R k) ∧ Nw w wr ∧ Oval wr w.heap.size cx cy rx ry) (fun i _ => t + 1 - (intOf i).toNat)
  case atStart =>
    have e0 : R f = [] := by rw [← HR.out, Nat.sub_self]; rfl
    have hl := LV.new (w.alloc (.cells #[.int .i64 cx, .int .i64 cy, .int .i64 rx, .int .i64 ry] 111)) 100
    rw [World.size_alloc] at hl
    refine ⟨f, Nat.le_refl _, by omega, rfl, by rw [e0]; exact hl, ((Below.refl _ _).alloc (Nat.le_refl _) _).alloc (by simp) _, ?_⟩
    refine ⟨?_, ?_, ?_, ?_⟩ <;> simp [World.cell?_alloc_past]
  case round =>
    obtain ⟨k, hk0, hk1, rfl, hl, hw, ho⟩ := hrel
    by_cases hlt : k ≤ t
    · have HC : Hid _ := fun w => icosK k (by omega) w
      have HS : Hid _ := fun w => isinK k (by omega) w
      have HM1 : Hid _ := fun w => ifm rx (cosV k) w
      have HM2 : Hid _ := fun w => ifm ry (sinV k) w
      have b1 := fmV_bd rx (cosV k)
      have b2 := fmV_bd ry (sinV k)
      have HE : Hid (R (k + 1) = R k ++ [(cx + fmV rx (cosV k), cy + fmV ry (sinV k))]) := by show _ = _; rw [← HR.out, ← HR.out, roundsP_at _ _ _ _ _ _ hk0]; rfl
      have HLn : Hid ((R k).length + 1 ≤ 1000000) := by show _ ≤ _; rw [← HR.out, roundsP_len]; omega
      generalize cosV k = vc at *
      generalize sinV k = vs at *
      generalize fmV rx vc = m1 at *
      generalize fmV ry vs = m2 at *
      have x1 : IntKind.i64.wrap (cx + m1) = cx + m1 := IntWalk.i64_in _ ⟨by omega, by omega⟩
      have x2 : IntKind.i64.wrap (cy + m2) = cy + m2 := IntWalk.i64_in _ ⟨by omega, by omega⟩
      have HL : Hid (LV (w.heap.size + 1) wr.drew (R k)) := LV.nw hl ((Below.refl _ _).drew)
      have HW : Hid (Nw w wr.drew) := Nw.trans hw ((Below.refl _ _).drew)
      have HO : Hid (Oval wr.drew w.heap.size cx cy rx ry) := ho
      have hsz : Hid (w.heap.size < wr.drew.heap.size) := World.block_lt_of_cell? wr ⟨w.heap.size, 0, none⟩ ho.1
      clear hl hw ho
      go_wp2
      go_region_held3 (fun w' => w'.cell? ⟨w.heap.size, 0, none⟩ = some (.int .i64 cx) ∧ w'.cell? ⟨w.heap.size, 1, none⟩ = some (.int .i64 cy) ∧ w'.cell? ⟨w.heap.size, 2, none⟩ = some (.int .i64 rx) ∧ w'.cell? ⟨w.heap.size, 3, none⟩ = some (.int .i64 ry))
        (first | with_reducible exact HO.out | with_reducible exact Oval.below HO.out ((Below.refl _ _).alloc (Nat.le_refl _) _) hsz.out)
        (first
          | (go_at_call 101; refine Calls.mono (HC.out _) ?_; rintro e w' ⟨rfl, hk⟩; replace HL := (show Hid (LV (w.heap.size + 1) w' (R k)) from LV.nw HL.out hk.nw); replace HW := (show Hid (Nw w w') from Nw.trans HW.out hk.nw); replace HO := (show Hid (Oval w' w.heap.size cx cy rx ry) from Oval.below HO.out hk.nw hsz.out); replace hsz := (show Hid (w.heap.size < w'.heap.size) from Nat.lt_of_lt_of_le hsz.out hk.size); clear hk)
          | (go_at_call 102; refine Calls.mono (HS.out _) ?_; rintro e w' ⟨rfl, hk⟩; replace HL := (show Hid (LV (w.heap.size + 1) w' (R k)) from LV.nw HL.out hk.nw); replace HW := (show Hid (Nw w w') from Nw.trans HW.out hk.nw); replace HO := (show Hid (Oval w' w.heap.size cx cy rx ry) from Oval.below HO.out hk.nw hsz.out); replace hsz := (show Hid (w.heap.size < w'.heap.size) from Nat.lt_of_lt_of_le hsz.out hk.size); clear hk)
          | (go_at_call_of 100 (Value.int .i64 vc); refine Calls.mono (HM1.out _) ?_; rintro e w' ⟨rfl, rfl⟩)
          | (go_at_call_of 100 (Value.int .i64 vs); refine Calls.mono (HM2.out _) ?_; rintro e w' ⟨rfl, rfl⟩)
          | (go_at_call 74; refine Calls.mono (iadd_one _ (w.heap.size + 1) (R k) (cx + m1) (cy + m2) _ HL.out HLn.out) ?_; rintro e w' ⟨rfl, hl2, hb2⟩; replace HL := (show Hid (LV (w.heap.size + 1) w' (R k ++ [(cx + m1, cy + m2)])) from hl2); replace HW := (show Hid (Nw w w') from Below.trans HW.out (Below.mono hb2 (Nat.le_succ _))); replace HO := (show Hid (Oval w' w.heap.size cx cy rx ry) from Oval.below HO.out hb2 (Nat.lt_succ_self _)); clear hl2 hb2))
      all_goals
        go_wp2
        go_roundw
        case rel => exact ⟨k + 1, by omega, by omega, by go_num, by rw [HE.out]; exact HL.out, HW.out, HO.out⟩
        case measure => simp [intOf]; omega
    · have HN : Hid (Nw w wr) := hw
      have e : k = t + 1 := by omega
      subst e
      obtain ⟨a, c, hv, hown⟩ := LV.val hl
      have HO : Hid (OwnP wr w.heap.size (.slice a (R (t + 1)).length c) (R (t + 1))) := OwnQ.base hown (by omega)
      clear hl hw ho hown
      go_wp2
      go_ret
      exact ⟨_, rfl, HO.out, HN.out⟩
end Go.Proofs.Ytmojppchpeecmaa
