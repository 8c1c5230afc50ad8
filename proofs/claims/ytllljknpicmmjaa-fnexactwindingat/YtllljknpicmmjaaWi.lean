/-
  Windings, of both: WindingAt; each theorem names its conditions.
-/
import Derived.Test.YtllljknpicmmjaaEds
import Derived.Test.YtllljknpicmmjaaSEds
import Derived.Test.YtllljknpicmmjaaWn
namespace Go.Proofs.Ytllljknpicmmjaa
open Go.ChangeShapes Go.WideShapes Go.ChangeAt Go.RowKit
set_option linter.unusedVariables false

def plB (x : Int) : Bool := decide (-20000 ≤ x ∧ x ≤ 20000)
theorem plB_iff {x : Int} : plB x = true ↔ -20000 ≤ x ∧ x ≤ 20000 := by unfold plB; simp
/-- Whether WindingAt answers. -/
def wiB (l : List LD) (x y : Int) : Bool := cvL l && (plB x && plB y)
def wiV (l : List LD) (x y : Int) : Int := if wiB l x y then wsum (eAll l l.length) x y else 0
theorem eAll_full (l : List LD) : (eAll l l.length).length = manyL l := by rw [eAll_len, List.take_length]
set_option maxRecDepth 100000 in
set_option maxHeartbeats 4000000 in
theorem swind (w : World) (a : Option Addr) (c : Nat) (l : List LD) (x y : Int) (hl : l.length ≤ 1048576) (hm : manyL l ≤ 1048576) (hr : Lines w a l) :
    Calls Try.prog 21 #[.slice a l.length c, .int .i64 x, .int .i64 y] w fun e w' => e = .returned (.tuple #[.int .i64 (wiV l x y), .bool (wiB l x y)]) ∧ Nw w w' := by
  have HC : Hid _ := scover w a c l hl hm hr
  have HX : Hid (∀ w, Calls Try.prog 53 #[.int .i64 x, .int .i64 (-20000), .int .i64 20000] w fun e w' => e = .returned (.bool (plB x)) ∧ w' = w) := fun w => in_any w x _ _
  have HY : Hid (∀ w, Calls Try.prog 53 #[.int .i64 y, .int .i64 (-20000), .int .i64 20000] w fun e w' => e = .returned (.bool (plB y)) ∧ w' = w) := fun w => in_any w y _ _
  have HR : Hid (Lines w a l) := hr
  clear hr
  unfold wiV wiB
  cases b1 : cvL l with
  | false =>
    rw [b1] at HC
    simp only [Bool.false_and, Bool.false_eq_true, if_false]
    clear b1
    generalize l.length = n at *
    go_enter Try.func21, Try.ntmps21
    go_wp2_with fail
    refine Calls.mono HC.out ?_
    rintro e w1 ⟨rfl, k1⟩
    have K1 : Hid (Kp w w1) := k1
    clear k1
    go_wp2
    go_ret2
    exact ⟨rfl, K1.out.nw⟩
  | true =>
    rw [b1] at HC
    simp only [Bool.true_and]
    cases b2 : plB x with
    | false =>
      rw [b2] at HX
      simp only [Bool.false_and, Bool.false_eq_true, if_false]
      clear b1 b2
      generalize l.length = n at *
      go_enter Try.func21, Try.ntmps21
      go_wp2_with fail
      refine Calls.mono HC.out ?_
      rintro e w1 ⟨rfl, k1⟩
      have K1 : Hid (Kp w w1) := k1
      clear k1
      go_wp2_with fail
      refine Calls.mono (HX.out _) ?_
      rintro e w2 ⟨rfl, rfl⟩
      go_wp2
      go_ret2
      exact ⟨rfl, K1.out.nw⟩
    | true =>
      rw [b2] at HX
      simp only [Bool.true_and]
      cases b3 : plB y with
      | false =>
        rw [b3] at HY
        simp only [Bool.false_eq_true, if_false]
        clear b1 b2 b3
        generalize l.length = n at *
        go_enter Try.func21, Try.ntmps21
        go_wp2_with fail
        refine Calls.mono HC.out ?_
        rintro e w1 ⟨rfl, k1⟩
        have K1 : Hid (Kp w w1) := k1
        clear k1
        go_wp2_with fail
        refine Calls.mono (HX.out _) ?_
        rintro e w2 ⟨rfl, rfl⟩
        go_wp2_with fail
        refine Calls.mono (HY.out _) ?_
        rintro e w3 ⟨rfl, rfl⟩
        go_wp2
        go_ret2
        exact ⟨rfl, K1.out.nw⟩
      | true =>
        rw [b3] at HY
        simp only [if_true]
        have HE : Hid (∀ w, Lines w a l → _) := fun w h => sedges w a c l hl b1 h
        have HW : Hid (∀ (w : World) (a : Option Addr) (c : Nat), Edgs w a (nfl (eAll l l.length)) → _) := fun w a c h => swinding w a c (nfl (eAll l l.length)) x y (Nat.le_trans (nfl_len _) (by rw [eAll_full]; exact (cvL_some b1).1)) (fun i hi => okE_all (cvL_some b1).2 ((List.mem_filter.1 (edAt_mem hi)).1)) (plB_iff.1 b2) (plB_iff.1 b3) h
        have hws : wsum (nfl (eAll l l.length)) x y = wsum (eAll l l.length) x y := wsum_filter _ x y
        rw [hws] at HW
        clear b1 b2 b3 hws
        generalize wsum (eAll l l.length) x y = Z at *
        generalize nfl (eAll l l.length) = E at *
        generalize l.length = n at *
        go_enter Try.func21, Try.ntmps21
        go_wp2_with fail
        refine Calls.mono HC.out ?_
        rintro e w1 ⟨rfl, k1⟩
        have K1 : Hid (Kp w w1) := k1
        clear k1
        go_wp2_with fail
        refine Calls.mono (HX.out _) ?_
        rintro e w2 ⟨rfl, rfl⟩
        go_wp2_with fail
        refine Calls.mono (HY.out _) ?_
        rintro e w3 ⟨rfl, rfl⟩
        go_wp2_with fail
        refine Calls.mono (HE.out _ (Lines.nw HR.out K1.out.nw)) ?_
        rintro e w4 ⟨v, rfl, o4, n4⟩
        obtain ⟨va, vc, rfl, h4⟩ := o4.edgs
        have N4 : Hid (Nw w w4) := Nw.trans K1.out.nw n4
        have H4 : Hid (Edgs w4 va E) := h4
        clear o4 n4 h4
        go_wp2_with fail
        refine Calls.mono (HW.out _ _ _ H4.out) ?_
        rintro e w5 ⟨rfl, k5⟩
        have N5 : Hid (Nw w w5) := Nw.trans N4.out k5.nw
        clear k5
        go_wp2
        go_ret2
        exact ⟨rfl, N5.out⟩
set_option maxRecDepth 100000 in
set_option maxHeartbeats 4000000 in
theorem iwind (w : World) (a : Option Addr) (c : Nat) (l : List LD) (x y : Int) (hl : l.length ≤ 1048576) (hm : manyL l ≤ 1048576) (hr : Lines w a l) :
    Calls Try.prog 23 #[.slice a l.length c, .int .i64 x, .int .i64 y] w fun e w' => e = .returned (.tuple #[.int .i64 (wiV l x y), .bool (wiB l x y)]) ∧ Nw w w' := by
  have HC : Hid _ := icover w a c l hl hm hr
  have HX : Hid (∀ w, Calls Try.prog 57 #[.int .i64 x, .int .i64 (-20000), .int .i64 20000] w fun e w' => e = .returned (.bool (plB x)) ∧ w' = w) := fun w => iin_any w x _ _
  have HY : Hid (∀ w, Calls Try.prog 57 #[.int .i64 y, .int .i64 (-20000), .int .i64 20000] w fun e w' => e = .returned (.bool (plB y)) ∧ w' = w) := fun w => iin_any w y _ _
  have HR : Hid (Lines w a l) := hr
  clear hr
  unfold wiV wiB
  cases b1 : cvL l with
  | false =>
    rw [b1] at HC
    simp only [Bool.false_and, Bool.false_eq_true, if_false]
    clear b1
    generalize l.length = n at *
    go_enter Try.func23, Try.ntmps23
    go_wp2_with fail
    refine Calls.mono HC.out ?_
    rintro e w1 ⟨rfl, k1⟩
    have K1 : Hid (Kp w w1) := k1
    clear k1
    go_wp2
    go_ret2
    exact ⟨rfl, K1.out.nw⟩
  | true =>
    rw [b1] at HC
    simp only [Bool.true_and]
    cases b2 : plB x with
    | false =>
      rw [b2] at HX
      simp only [Bool.false_and, Bool.false_eq_true, if_false]
      clear b1 b2
      generalize l.length = n at *
      go_enter Try.func23, Try.ntmps23
      go_wp2_with fail
      refine Calls.mono HC.out ?_
      rintro e w1 ⟨rfl, k1⟩
      have K1 : Hid (Kp w w1) := k1
      clear k1
      go_wp2_with fail
      refine Calls.mono (HX.out _) ?_
      rintro e w2 ⟨rfl, rfl⟩
      go_wp2
      go_ret2
      exact ⟨rfl, K1.out.nw⟩
    | true =>
      rw [b2] at HX
      simp only [Bool.true_and]
      cases b3 : plB y with
      | false =>
        rw [b3] at HY
        simp only [Bool.false_eq_true, if_false]
        clear b1 b2 b3
        generalize l.length = n at *
        go_enter Try.func23, Try.ntmps23
        go_wp2_with fail
        refine Calls.mono HC.out ?_
        rintro e w1 ⟨rfl, k1⟩
        have K1 : Hid (Kp w w1) := k1
        clear k1
        go_wp2_with fail
        refine Calls.mono (HX.out _) ?_
        rintro e w2 ⟨rfl, rfl⟩
        go_wp2_with fail
        refine Calls.mono (HY.out _) ?_
        rintro e w3 ⟨rfl, rfl⟩
        go_wp2
        go_ret2
        exact ⟨rfl, K1.out.nw⟩
      | true =>
        rw [b3] at HY
        simp only [if_true]
        have HE : Hid (∀ w, Lines w a l → _) := fun w h => iedges w a c l hl b1 h
        have hel : (eAll l l.length).length ≤ 4800 := by rw [eAll_full]; exact (cvL_some b1).1
        have HOK : Hid (∀ i, i < (eAll l l.length).length → okE (edAt (eAll l l.length) i)) := fun i hi => okE_all (cvL_some b1).2 (edAt_mem hi)
        have HT : Hid _ := fun w e => iturn w e y
        have HG : Hid (∀ w e, okE e → _) := fun w e h => iright w e x y h (plB_iff.1 b2) (plB_iff.1 b3)
        clear b1 b2 b3 hm
        generalize eAll l l.length = E at *
        generalize l.length = n at *
        have HBD : Hid (∀ k, k ≤ E.length → -(k : Int) ≤ wsum (E.take k) x y ∧ wsum (E.take k) x y ≤ k) := fun k hk => by
          have := wsum_bd (E.take k) x y
          rw [List.length_take, Nat.min_eq_left hk] at this
          exact this
        go_enter Try.func23, Try.ntmps23
        go_wp2_with fail
        refine Calls.mono HC.out ?_
        rintro e w1 ⟨rfl, k1⟩
        have K1 : Hid (Kp w w1) := k1
        clear k1
        go_wp2_with fail
        refine Calls.mono (HX.out _) ?_
        rintro e w2 ⟨rfl, rfl⟩
        go_wp2_with fail
        refine Calls.mono (HY.out _) ?_
        rintro e w3 ⟨rfl, rfl⟩
        go_wp2_with fail
        refine Calls.mono (HE.out _ (Lines.nw HR.out K1.out.nw)) ?_
        rintro e w4 ⟨v, rfl, o4, n4⟩
        obtain ⟨va, vc, rfl, h4⟩ := o4.edgs
        have N4 : Hid (Nw w w4) := Nw.trans K1.out.nw n4
        have H4 : Hid (Edgs w4 va E) := h4
        clear o4 n4 h4
        go_wp2
        go_loopw [8, 27] (fun z i wr => ∃ k : Nat, k ≤ E.length ∧ i = .int .i64 (k : Int) ∧ z = .int .i64 (wsum (E.take k) x y) ∧ Kp w4 wr) (fun _ i _ => E.length - (intOf i).toNat)
        case atStart => exact ⟨0, Nat.zero_le _, rfl, rfl, Kp.refl _⟩
        case round =>
          obtain ⟨k, hk, rfl, rfl, hw⟩ := hrel
          have HW : Hid (Kp w4 wr) := hw
          clear hw
          by_cases hlt : k < E.length
          · rcases (Edgs.nw H4.out HW.out.nw) with h | ⟨b, off, rfl, hb, hc⟩
            · rw [h] at hlt; simp at hlt
            obtain ⟨q0, q1, q2, q3⟩ := hc k hlt
            clear hc
            have HS : Hid _ := wsum_step E k hlt x y
            have hbd := HBD.out k hk
            have HTe : Hid _ := fun w => HT.out w (edAt E k)
            have HGe : Hid _ := fun w => HG.out w (edAt E k) (HOK.out k hlt)
            have htv := trn_val (edAt E k) y
            unfold wn at HS
            generalize wsum (E.take k) x y = z at *
            generalize rgt (edAt E k) x y = R at *
            generalize trn (edAt E k) y = t at *
            generalize edAt E k = e at *
            obtain ⟨ax, ay, bx, cy⟩ := e
            unfold edV at HTe HGe
            simp only at q0 q1 q2 q3 HTe HGe
            cases R with
            | false =>
              simp only [Bool.false_eq_true, if_false, Int.add_zero] at HS
              go_wp2_with fail
              refine Calls.mono (HGe.out _) ?_
              rintro e w5 ⟨rfl, k5⟩
              have K5 : Hid (Kp w4 w5) := Kp.trans (Kp.alloc HW.out _ _) k5
              clear k5
              go_wp2
              go_roundw
              case rel => exact ⟨k + 1, by omega, by go_num, by rw [HS.out], K5.out⟩
              case measure => simp [intOf]; omega
            | true =>
              simp only [if_true] at HS
              go_wp2_with fail
              refine Calls.mono (HGe.out _) ?_
              rintro e w5 ⟨rfl, k5⟩
              have K5 : Hid (Kp w4 w5) := Kp.trans (Kp.alloc HW.out _ _) k5
              have n0 : wr.heap.size < (wr.alloc (.cells #[.int .i64 ax, .int .i64 ay, .int .i64 bx, .int .i64 cy] 91)).heap.size := by simp
              have z0 : w5.cell? ⟨wr.heap.size, 0, none⟩ = some (.int .i64 ax) := (k5.cells.1 _ _ n0).trans (by simp)
              have z1 : w5.cell? ⟨wr.heap.size, 1, none⟩ = some (.int .i64 ay) := (k5.cells.1 _ _ n0).trans (by simp)
              have z2 : w5.cell? ⟨wr.heap.size, 2, none⟩ = some (.int .i64 bx) := (k5.cells.1 _ _ n0).trans (by simp)
              have z3 : w5.cell? ⟨wr.heap.size, 3, none⟩ = some (.int .i64 cy) := (k5.cells.1 _ _ n0).trans (by simp)
              clear k5 n0
              go_wp2_with fail
              refine Calls.mono (HTe.out _) ?_
              rintro e w6 ⟨rfl, k6⟩
              have K6 : Hid (Kp w4 w6) := Kp.trans K5.out k6
              clear k6 z0 z1 z2 z3
              have ht1 : -1 ≤ t ∧ t ≤ 1 := by omega
              clear htv
              go_wp2
              go_roundw
              case rel => exact ⟨k + 1, by omega, by go_num, by rw [HS.out], K6.out⟩
              case measure => simp [intOf]; omega
          · have e : k = E.length := by omega
            subst e
            rw [List.take_length] at *
            go_wp2
            go_ret2
            exact ⟨rfl, Nw.trans N4.out HW.out.nw⟩
end Go.Proofs.Ytllljknpicmmjaa
