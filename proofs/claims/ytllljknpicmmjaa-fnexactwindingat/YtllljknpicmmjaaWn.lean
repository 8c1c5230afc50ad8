/-
  What an edge gives to a winding, of both; the specification's sum; each theorem names its conditions.
-/
import Derived.Test.YtllljknpicmmjaaEd4
namespace Go.Proofs.Ytllljknpicmmjaa
open Go.ChangeShapes Go.WideShapes Go.ChangeAt Go.RowKit
set_option linter.unusedVariables false

set_option maxRecDepth 100000 in
set_option maxHeartbeats 1000000 in
theorem iturn (w : World) (e : Edg) (y : Int) : Calls Try.prog 59 #[edV e, .int .i64 y] w fun e' w' => e' = .returned (.int .i64 (trn e y)) ∧ Kp w w' := by
  obtain ⟨ax, ay, bx, cy⟩ := e
  unfold edV trn
  simp only
  by_cases h1 : ay ≤ y
  · by_cases h2 : y < cy
    · rw [if_pos ⟨h1, h2⟩]
      go_enter Try.func59, Try.ntmps59
      go_wp2
      go_ret
      exact ⟨rfl, (Kp.refl w).alloc _ _⟩
    · rw [if_neg (fun h => h2 h.2)]
      by_cases h3 : y < ay
      · omega
      · rw [if_neg (fun h => h3 h.2)]
        by_cases h4 : cy ≤ y
        · go_enter Try.func59, Try.ntmps59
          go_wp2
          go_ret
          exact ⟨rfl, (Kp.refl w).alloc _ _⟩
        · omega
  · rw [if_neg (fun h => h1 h.1)]
    by_cases h3 : cy ≤ y
    · rw [if_pos ⟨h3, by omega⟩]
      go_enter Try.func59, Try.ntmps59
      go_wp2
      go_ret
      exact ⟨rfl, (Kp.refl w).alloc _ _⟩
    · rw [if_neg (fun h => h3 h.1)]
      go_enter Try.func59, Try.ntmps59
      go_wp2
      go_ret
      exact ⟨rfl, (Kp.refl w).alloc _ _⟩
theorem trn_val (e : Edg) (y : Int) : trn e y = 1 ∨ trn e y = 0 ∨ trn e y = -1 := by
  unfold trn
  split
  · exact Or.inl rfl
  · split
    · exact Or.inr (Or.inr rfl)
    · exact Or.inr (Or.inl rfl)
set_option maxRecDepth 100000 in
set_option maxHeartbeats 2000000 in
theorem iright (w : World) (e : Edg) (x y : Int) (h : okE e) (hx : -20000 ≤ x ∧ x ≤ 20000) (hy : -20000 ≤ y ∧ y ≤ 20000) :
    Calls Try.prog 58 #[edV e, .int .i64 x, .int .i64 y] w fun e' w' => e' = .returned (.bool (rgt e x y)) ∧ Kp w w' := by
  obtain ⟨⟨b1, b2⟩, b3, b4⟩ := dd_bd h hx hy
  have HT : Hid _ := fun w => iturn w e y
  have HB : Hid (∀ V, trn e y = V → rgt e x y = decide (0 < ((e.bx - e.ax) * (y - e.ay) - (x - e.ax) * (e.cy - e.ay)) * V)) := fun V hV => by unfold rgt ddE; rw [hV]
  have hv := trn_val e y
  obtain ⟨R, hR⟩ : ∃ R, rgt e x y = R := ⟨_, rfl⟩
  rw [hR] at HB ⊢
  clear hR
  generalize trn e y = t at *
  obtain ⟨⟨h1, h2⟩, ⟨h3, h4⟩, ⟨h5, h6⟩, h7, h8⟩ := h
  obtain ⟨ax, ay, bx, cy⟩ := e
  unfold edV at HT ⊢
  simp only at *
  have HBt : Hid (R = decide (0 < ((bx - ax) * (y - ay) - (x - ax) * (cy - ay)) * t)) := HB.out t rfl
  clear HB
  rcases hv with rfl | rfl | rfl
  all_goals
    go_enter Try.func58, Try.ntmps58
    go_wp2_with fail
    refine Calls.mono (HT.out _) ?_
    rintro e w1 ⟨rfl, k1⟩
    have K1 : Hid (Kp w w1) := Kp.trans ((Kp.refl w).alloc _ _) k1
    clear k1
    go_wp2
    go_ret
    refine ⟨ret_bool ?_, K1.out⟩
    rw [HBt.out]
    first | rfl | (rw [Bool.eq_iff_iff]; simp)
set_option maxRecDepth 100000 in
set_option maxHeartbeats 4000000 in
theorem swinding (w : World) (a : Option Addr) (c : Nat) (l : List Edg) (x y : Int) (hl : l.length ≤ 4800) (ho : ∀ i, i < l.length → okE (edAt l i)) (hx : -20000 ≤ x ∧ x ≤ 20000) (hy : -20000 ≤ y ∧ y ≤ 20000) (hr : Edgs w a l) :
    Calls Try.prog 54 #[.slice a l.length c, .int .i64 x, .int .i64 y] w fun e' w' => e' = .returned (.int .i64 (wsum l x y)) ∧ Kp w w' := by
  have HR : Hid (Edgs w a l) := hr
  have HO : Hid _ := ho
  have HBD : Hid (∀ k, k ≤ l.length → -(k : Int) ≤ wsum (l.take k) x y ∧ wsum (l.take k) x y ≤ k) := fun k hk => by
    have := wsum_bd (l.take k) x y
    rw [List.length_take, Nat.min_eq_left hk] at this
    exact this
  clear hr ho
  go_enter Try.func54, Try.ntmps54
  go_wp2
  go_loopw [7, 13] (fun n i wr => ∃ k : Nat, k ≤ l.length ∧ i = .int .i64 k ∧ n = .int .i64 (wsum (l.take k) x y) ∧ Kp w wr) (fun _ i _ => l.length - (intOf i).toNat)
  case atStart => exact ⟨0, Nat.zero_le _, rfl, rfl, Kp.refl _⟩
  case round =>
    obtain ⟨k, hk, rfl, rfl, hw⟩ := hrel
    have HW : Hid (Kp w wr) := hw
    clear hw
    by_cases hlt : k < l.length
    · rcases (HR.out.nw HW.out.nw) with h | ⟨b, off, rfl, hb, hc⟩
      · rw [h] at hlt; simp at hlt
      obtain ⟨q0, q1, q2, q3⟩ := hc k hlt
      clear hc
      have hok := HO.out k hlt
      obtain ⟨⟨d1, d2⟩, d3, d4⟩ := dd_bd hok hx hy
      have HE : Hid _ := wsum_step l k hlt x y
      have hbd := HBD.out k hk
      have HU : Hid _ := fun h => wn_up (e := edAt l k) (x := x) (y := y) h
      have HD : Hid _ := fun h => wn_down (e := edAt l k) (x := x) (y := y) h
      have HZ : Hid _ := fun h1 h2 => wn_out (e := edAt l k) (x := x) (y := y) h1 h2
      unfold ddE at HU HD
      generalize wn x y (edAt l k) = V at *
      generalize wsum (l.take k) x y = z at *
      generalize edAt l k = e at *
      obtain ⟨⟨h1, h2⟩, ⟨h3, h4⟩, ⟨h5, h6⟩, h7, h8⟩ := hok
      obtain ⟨ax, ay, bx, cy⟩ := e
      simp only at *
      by_cases c1 : ay ≤ y
      · by_cases c2 : y < cy
        · have c3 : ¬ cy ≤ y := by omega
          replace HU : Hid _ := HU.out ⟨c1, c2⟩
          by_cases c4 : 0 < (bx - ax) * (y - ay) - (x - ax) * (cy - ay)
          · rw [if_pos c4] at HU
            go_wp2
            go_roundw
            case rel => exact ⟨k + 1, by omega, by go_num, by rw [HE.out, HU.out], HW.out.alloc _ _⟩
            case measure => simp [intOf]; omega
          · rw [if_neg c4] at HU
            go_wp2
            go_roundw
            case rel => exact ⟨k + 1, by omega, by go_num, by rw [HE.out, HU.out, Int.add_zero], HW.out.alloc _ _⟩
            case measure => simp [intOf]; omega
        · have c3 : ¬ y < ay := by omega
          replace HZ : Hid _ := HZ.out (fun h => c2 h.2) (fun h => c3 h.2)
          go_wp2
          go_roundw
          case rel => exact ⟨k + 1, by omega, by go_num, by rw [HE.out, HZ.out, Int.add_zero], HW.out.alloc _ _⟩
          case measure => simp [intOf]; omega
      · by_cases c2 : cy ≤ y
        · have c3 : y < ay := by omega
          replace HD : Hid _ := HD.out ⟨c2, c3⟩
          by_cases c4 : (bx - ax) * (y - ay) - (x - ax) * (cy - ay) < 0
          · rw [if_pos c4] at HD
            go_wp2
            go_roundw
            case rel => exact ⟨k + 1, by omega, by go_num, by rw [HE.out, HD.out]; go_num, HW.out.alloc _ _⟩
            case measure => simp [intOf]; omega
          · rw [if_neg c4] at HD
            go_wp2
            go_roundw
            case rel => exact ⟨k + 1, by omega, by go_num, by rw [HE.out, HD.out, Int.add_zero], HW.out.alloc _ _⟩
            case measure => simp [intOf]; omega
        · replace HZ : Hid _ := HZ.out (fun h => c1 h.1) (fun h => c2 h.1)
          go_wp2
          go_roundw
          case rel => exact ⟨k + 1, by omega, by go_num, by rw [HE.out, HZ.out, Int.add_zero], HW.out.alloc _ _⟩
          case measure => simp [intOf]; omega
    · have e : k = l.length := by omega
      subst e
      rw [List.take_length] at *
      go_wp2
      go_ret
      exact ⟨rfl, HW.out⟩
end Go.Proofs.Ytllljknpicmmjaa
