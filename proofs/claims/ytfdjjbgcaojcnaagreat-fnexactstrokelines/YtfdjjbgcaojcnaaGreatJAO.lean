/-
  Good pens, by the reference: GoodPen; each theorem names its
-/
import Derived.Test.YtfdjjbgcaojcnaaGreatJAN
import Derived.Test.YtfdjjbgcaojcnaaGreatJAB
import Derived.Test.YtfdjjbgcaojcnaaGreatJAC
import Derived.Test.YtfdjjbgcaojcnaaGreatJAM
import Derived.Test.YtfdjjbgcaojcnaaGreatJAE
import Derived.Test.YtfdjjbgcaojcnaaGreatJAL
import Derived.Deep.Upon
import Derived.Deep.DeepCutAuto
import Derived.Deep.CutBlock
import Derived.Test.YtfdjjbgcaojcnaaGreatJAA
namespace Go.Proofs.YtfdjjbgcaojcnaaGreat
open Go.ChangeShapes Go.WideShapes Go.ChangeAt Go.RowKit
set_option linter.unusedVariables false
def penB (p : PD) (l : List Int) : Bool := decide (0 ≤ p.w ∧ p.w ≤ 4194304) && (decide (1 ≤ p.j ∧ p.j ≤ 3) && (decide (1 ≤ p.c ∧ p.c ≤ 3) && dshB l p.f))
set_option maxRecDepth 100000 in
set_option maxHeartbeats 4000000 in
theorem sgoodPen (w : World) (p : PD) (a : Option Addr) (c : Nat) (l : List Int) (hl : l.length ≤ 1048576) (hr : Ints w a l) :
  Calls Tryz.prog 45 #[penV p (.slice a l.length c)] w fun e w' => e = .returned (.bool (penB p l)) ∧ Kp w w' := by
 obtain ⟨pw, pj, pc, pf⟩ := p
 unfold penV penB dshB
 simp only
 have k1 : ∀ o t, Kp w (w.alloc (.cells o t)) := fun o t => (Kp.refl w).alloc _ _
 have HR : Hid (∀ o t, Ints (w.alloc (.cells o t)) a l) := fun o t => hr.nw (k1 o t).nw
 have H1 : Hid _ := fun w => in_any w pw 0 4194304
 have H2 : Hid _ := fun w => in_any w pj 1 3
 have H3 : Hid _ := fun w => in_any w pc 1 3
 have H4 : Hid (∀ w, Calls Tryz.prog 36 #[.int .i64 pf, .int .i64 0, .int .i64 67108864] w fun e w' => e = .returned (.bool (dnB pf)) ∧ w' = w) := fun w => in_any w pf 0 67108864
 clear hr
 generalize decide (0 ≤ pw ∧ pw ≤ 4194304) = b1 at *
 generalize decide (1 ≤ pj ∧ pj ≤ 3) = b2 at *
 generalize decide (1 ≤ pc ∧ pc ≤ 3) = b3 at *
 generalize dnB pf = b4 at *
 cases b1 with
 | false =>
  go_enter Tryz.func45, Tryz.ntmps45
  go_wp2_with fail
  refine Calls.mono (H1.out _) ?_
  rintro e w9 ⟨rfl, rfl⟩
  go_wp2
  go_ret
  exact ⟨rfl, k1 _ _⟩
 | true =>
  rw [Bool.true_and]
  cases b2 with
  | false =>
   go_enter Tryz.func45, Tryz.ntmps45
   go_wp2_with fail
   refine Calls.mono (H1.out _) ?_
   rintro e w9 ⟨rfl, rfl⟩
   go_wp2_with fail
   refine Calls.mono (H2.out _) ?_
   rintro e w9 ⟨rfl, rfl⟩
   go_wp2
   go_ret
   exact ⟨rfl, k1 _ _⟩
  | true =>
   rw [Bool.true_and]
   cases b3 with
   | false =>
    go_enter Tryz.func45, Tryz.ntmps45
    go_wp2_with fail
    refine Calls.mono (H1.out _) ?_
    rintro e w9 ⟨rfl, rfl⟩
    go_wp2_with fail
    refine Calls.mono (H2.out _) ?_
    rintro e w9 ⟨rfl, rfl⟩
    go_wp2_with fail
    refine Calls.mono (H3.out _) ?_
    rintro e w9 ⟨rfl, rfl⟩
    go_wp2
    go_ret
    exact ⟨rfl, k1 _ _⟩
   | true =>
    rw [Bool.true_and]
    by_cases h8 : l.length ≤ 8
    ·have hd : decide ((8 : Int) < l.length) = false := decide_eq_false (by omega)
     rw [decide_eq_true h8, Bool.true_and]
     cases b4 with
     | false =>
      go_enter Tryz.func45, Tryz.ntmps45
      go_wp2_with fail
      refine Calls.mono (H1.out _) ?_
      rintro e w9 ⟨rfl, rfl⟩
      go_wp2_with fail
      refine Calls.mono (H2.out _) ?_
      rintro e w9 ⟨rfl, rfl⟩
      go_wp2_with fail
      refine Calls.mono (H3.out _) ?_
      rintro e w9 ⟨rfl, rfl⟩
      go_wp2_with fail
      refine Calls.mono (H4.out _) ?_
      rintro e w9 ⟨rfl, rfl⟩
      go_wp2
      go_ret
      exact ⟨rfl, k1 _ _⟩
     | true =>
      rw [Bool.true_and]
      obtain ⟨V, hV⟩ : ∃ V, l.all dnB = V := ⟨_, rfl⟩
      rw [hV]
      have HX : Hid (l.all dnB = V) := hV
      clear hV
      go_enter Tryz.func45, Tryz.ntmps45
      go_wp2_with fail
      refine Calls.mono (H1.out _) ?_
      rintro e w9 ⟨rfl, rfl⟩
      go_wp2_with fail
      refine Calls.mono (H2.out _) ?_
      rintro e w9 ⟨rfl, rfl⟩
      go_wp2_with fail
      refine Calls.mono (H3.out _) ?_
      rintro e w9 ⟨rfl, rfl⟩
      go_wp2_with fail
      refine Calls.mono (H4.out _) ?_
      rintro e w9 ⟨rfl, rfl⟩
      go_wp2
      go_loop [36] (fun i => ∃ k : Nat, k ≤ l.length ∧ i = .int .i64 k ∧ ∀ j, j < k → dnB (intAt l j) = true) (fun i => l.length - (intOf i).toNat)
      case atStart => exact ⟨0, Nat.zero_le _, rfl, fun j hj => absurd hj (by omega)⟩
      case round =>
       obtain ⟨k, hk, rfl, ha⟩ := hrel
       have HA : Hid _ := ha
       clear ha
       by_cases hlt : k < l.length
       ·obtain ⟨b, off, rfl, q⟩ := Ints.at (HR.out #[.int .i64 pw, .int .i64 pj, .int .i64 pc, .slice a l.length c, .int .i64 pf] 36) hlt
        obtain ⟨x, hx⟩ : ∃ x, intAt l k = x := ⟨_, rfl⟩
        have HXX : Hid (intAt l k = x) := hx
        rw [hx] at q
        clear hx
        have HC : Hid (∀ w, Calls Tryz.prog 36 #[.int .i64 x, .int .i64 0, .int .i64 67108864] w fun e w' => e = .returned (.bool (dnB x)) ∧ w' = w) := fun w => in_any w x 0 67108864
        cases hdn : dnB x with
        | false =>
         have HY : Hid (V = false) := HX.out.symm.trans (all_false dnB 0 l k hlt (show dnB (intAt l k) = false by rw [HXX.out]; exact hdn))
         rw [hdn] at HC
         clear hdn
         go_wp2_with fail
         refine (HC.out _).mono ?_
         rintro e w2 ⟨rfl, rfl⟩
         go_wp2
         go_ret
         exact ⟨ret_bool HY.out.symm, k1 _ _⟩
        | true =>
         have HY : Hid (dnB (intAt l k) = true) := by show _ = _; rw [HXX.out]; exact hdn
         rw [hdn] at HC
         clear hdn
         go_wp2_with fail
         refine (HC.out _).mono ?_
         rintro e w2 ⟨rfl, rfl⟩
         go_wp2
         go_round
         case rel =>
          refine ⟨k + 1, by omega, by go_num, fun j hj => ?_⟩
          rcases Nat.lt_succ_iff_lt_or_eq.1 hj with h | h
          ·exact HA.out j h
          ·rw [h]; exact HY.out
         case measure => simp [intOf]; omega
       ·have HY : Hid (V = true) := HX.out.symm.trans (all_true dnB 0 l (fun j hj => HA.out j (by omega)))
        clear HA
        go_wp2
        go_ret
        exact ⟨ret_bool HY.out.symm, k1 _ _⟩
    ·have hd : decide ((8 : Int) < l.length) = true := decide_eq_true (by omega)
     rw [decide_eq_false h8, Bool.false_and]
     go_enter Tryz.func45, Tryz.ntmps45
     go_wp2_with fail
     refine Calls.mono (H1.out _) ?_
     rintro e w9 ⟨rfl, rfl⟩
     go_wp2_with fail
     refine Calls.mono (H2.out _) ?_
     rintro e w9 ⟨rfl, rfl⟩
     go_wp2_with fail
     refine Calls.mono (H3.out _) ?_
     rintro e w9 ⟨rfl, rfl⟩
     go_wp2
     go_ret
     exact ⟨rfl, k1 _ _⟩
def nearL (l : List LD) : Bool := l.all fun x => nearsB x.pts
theorem nearL_false {l : List LD} {k : Nat} (hk : k < l.length) (h : nearsB (lnAt l k).pts = false) : nearL l = false := all_false _ noLD l k hk h
theorem nearL_true {l : List LD} (h : ∀ k, k < l.length → nearsB (lnAt l k).pts = true) : nearL l = true := all_true _ noLD l h
theorem nearL_at {l : List LD} (h : nearL l = true) (k : Nat) (hk : k < l.length) : nearsB (lnAt l k).pts = true := by
 unfold nearL at h
 rw [List.all_eq_true] at h
 unfold lnAt
 rw [show l.getD k noLD = l[k] by simp [hk]]
 exact h _ (List.getElem_mem hk)
set_option maxHeartbeats 1000000 in
theorem inearL (w : World) (a : Option Addr) (c : Nat) (l : List LD) (hl : l.length ≤ 1048576) (hm : manyL l ≤ 1048576) (hr : Lines w a l) :
  Calls Tryz.prog 42 #[.slice a l.length c] w fun e w' => e = .returned (.bool (nearL l)) ∧ Kp w w' := by
 obtain ⟨V, hV⟩ : ∃ V, nearL l = V := ⟨_, rfl⟩
 have HV : Hid (nearL l = V) := hV
 rw [hV]
 have HR : Hid (Lines w a l) := hr
 clear hr hV
 go_enter Tryz.func42, Tryz.ntmps42
 go_wp2
 go_loopw [7] (fun i wr => ∃ k : Nat, k ≤ l.length ∧ i = .int .i64 k ∧ (∀ m, m < k → nearsB (lnAt l m).pts = true) ∧ Kp w wr) (fun i _ => l.length - (intOf i).toNat)
 case atStart => exact ⟨0, Nat.zero_le _, rfl, fun m hm => absurd hm (by omega), Kp.refl _⟩
 case round =>
  obtain ⟨k, hk, rfl, ha, hw⟩ := hrel
  have HW : Hid (Kp w wr) := hw
  have HA : Hid _ := ha
  clear hw ha
  by_cases hlt : k < l.length
  ·rcases (HR.out.nw HW.out.nw) with h | ⟨b, off, rfl, hb, hc⟩
   ·rw [h] at hlt; simp at hlt
   obtain ⟨⟨pa, pc, q0, qp⟩, q1⟩ := hc k hlt
   clear hc
   have hn := manyL_at l k hlt
   have HC : Hid (∀ o, _) := fun o => inear (wr.alloc o) pa pc (lnAt l k).pts (by omega) (qp.nw ((Below.refl _ _).alloc (Nat.le_refl _) _))
   cases hf : nearsB (lnAt l k).pts with
   | false =>
    have HF : Hid (V = false) := HV.out.symm.trans (nearL_false hlt hf)
    rw [hf] at HC
    clear hf qp
    generalize (lnAt l k).closed = cl at *
    generalize (lnAt l k).pts.length = n at *
    go_wp2_with fail
    refine Calls.mono (HC.out _) ?_
    rintro e w1 ⟨rfl, k1⟩
    have K1 : Hid (Kp w w1) := Kp.trans (Kp.alloc HW.out _ _) k1
    clear k1
    go_wp2
    go_ret
    exact ⟨ret_bool HF.out.symm, K1.out⟩
   | true =>
    have HF : Hid (nearsB (lnAt l k).pts = true) := hf
    rw [hf] at HC
    clear hf qp
    generalize (lnAt l k).closed = cl at *
    generalize hnn : (lnAt l k).pts.length = n at *
    clear hnn
    go_wp2_with fail
    refine Calls.mono (HC.out _) ?_
    rintro e w1 ⟨rfl, k1⟩
    have K1 : Hid (Kp w w1) := Kp.trans (Kp.alloc HW.out _ _) k1
    clear k1
    go_wp2
    go_roundw
    case rel =>
     refine ⟨k + 1, by omega, by go_num, fun m hm => ?_, K1.out⟩
     rcases Nat.lt_succ_iff_lt_or_eq.1 hm with h | h
     ·exact HA.out m h
     ·rw [h]; exact HF.out
    case measure => simp [intOf]; omega
  ·have HX : Hid (V = true) := HV.out.symm.trans (nearL_true (fun m hm => HA.out m (by omega)))
   clear HA
   go_wp2
   go_ret
   exact ⟨ret_bool HX.out.symm, HW.out⟩
def ddK (l : List Pnt) : Nat → List Pnt
 | 0 => []
 | k + 1 => if k = 0 ∨ ptAt l k ≠ ptAt l (k - 1) then ddK l k ++ [ptAt l k] else ddK l k
theorem ptAt_app (l : List Pnt) (q : Pnt) (i : Nat) (h : i < l.length) : ptAt (l ++ [q]) i = ptAt l i := by simp [ptAt, List.getElem?_append, h]
theorem ptAt_new (l : List Pnt) (q : Pnt) : ptAt (l ++ [q]) l.length = q := by simp [ptAt]
theorem ptAt_mem {l : List Pnt} {i : Nat} (h : i < l.length) : ptAt l i ∈ l := by
 unfold ptAt
 rw [show l.getD i (0, 0) = l[i]'h by simp [h]]
 exact List.getElem_mem h
theorem ddK_len (l : List Pnt) : ∀ k, (ddK l k).length ≤ k
 | 0 => by simp [ddK]
 | k + 1 => by
  have := ddK_len l k
  rw [ddK]
  split <;> simp <;> omega
theorem ddK_pos (l : List Pnt) : ∀ k, 0 < k → 0 < (ddK l k).length
 | 0, h => absurd h (by omega)
 | k + 1, _ => by
  rw [ddK]
  split
  ·simp
  ·rename_i h
   exact ddK_pos l k (by omega)
theorem ddK_last (l : List Pnt) : ∀ k, 0 < k → ptAt (ddK l k) ((ddK l k).length - 1) = ptAt l (k - 1)
 | 0, h => absurd h (by omega)
 | k + 1, _ => by
  rw [ddK]
  split
  ·rw [List.length_append, List.length_singleton, Nat.add_sub_cancel, ptAt_new, Nat.add_sub_cancel]
  ·rename_i h
   rw [ddK_last l k (by omega), Nat.add_sub_cancel]
   exact (Decidable.not_not.1 (fun e => h (Or.inr e))).symm
theorem ddK_in (l : List Pnt) : ∀ k, k ≤ l.length → ∀ x, x ∈ ddK l k → x ∈ l
 | 0, _, x, hx => by cases hx
 | k + 1, hk, x, hx => by
  rw [ddK] at hx
  split at hx
  ·rcases List.mem_append.1 hx with h | h
   ·exact ddK_in l k (by omega) x h
   ·rw [List.mem_singleton.1 h]; exact ptAt_mem (by omega)
  ·exact ddK_in l k (by omega) x hx
def unlQ (q : List Pnt) : Prop := ∀ i, i + 1 < q.length → ptAt q i ≠ ptAt q (i + 1)
theorem ddK_unl (l : List Pnt) : ∀ k, unlQ (ddK l k)
 | 0 => fun i hi => absurd hi (by simp [ddK])
 | k + 1 => by
  have ih := ddK_unl l k
  rw [ddK]
  split
  ·rename_i h
   intro i hi
   rw [List.length_append, List.length_singleton] at hi
   by_cases e : i + 1 = (ddK l k).length
   ·rw [ptAt_app _ _ i (by omega), e, ptAt_new]
    have hk : 0 < k := by
     rcases Nat.eq_zero_or_pos k with h0 | h0
     ·rw [h0] at e; simp [ddK] at e
     ·exact h0
    have hl := ddK_last l k hk
    rw [show (ddK l k).length - 1 = i by omega] at hl
    rw [hl]
    rcases h with h | h
    ·omega
    ·exact fun e => h e.symm
   ·rw [ptAt_app _ _ i (by omega), ptAt_app _ _ (i + 1) (by omega)]
    exact ih i (by omega)
  ·exact ih
def trimQ (cl : Bool) (q : List Pnt) : List Pnt := if cl = true ∧ ptAt q (q.length - 1) = ptAt q 0 then q.take (q.length - 1) else q
def ddP (l : List Pnt) (cl : Bool) : List Pnt := trimQ cl (ddK l l.length)
theorem ptAt_take (l : List Pnt) (n i : Nat) (h : i < n) : ptAt (l.take n) i = ptAt l i := by simp [ptAt, h]
theorem trimQ_len (cl : Bool) (q : List Pnt) : (trimQ cl q).length ≤ q.length := by
 unfold trimQ; split
 ·simp
 ·exact Nat.le_refl _
theorem ddP_len (l : List Pnt) (cl : Bool) : (ddP l cl).length ≤ l.length := Nat.le_trans (trimQ_len _ _) (ddK_len l l.length)
theorem ddP_in (l : List Pnt) (cl : Bool) : ∀ x, x ∈ ddP l cl → x ∈ l := by
 intro x hx
 unfold ddP trimQ at hx
 split at hx
 ·exact ddK_in l l.length (Nat.le_refl _) x (List.mem_of_mem_take hx)
 ·exact ddK_in l l.length (Nat.le_refl _) x hx
def apartQ (cl : Bool) (q : List Pnt) : Prop := ∀ i, i < segN cl q.length → ptAt q i ≠ nxtP q i
theorem ddP_apart (l : List Pnt) (cl : Bool) (h2 : 2 ≤ (ddP l cl).length) : apartQ cl (ddP l cl) := by
 have hu := ddK_unl l l.length
 unfold ddP at h2 ⊢
 generalize ddK l l.length = q at *
 intro i hi
 unfold nxtP
 unfold trimQ at *
 by_cases hc : cl = true ∧ ptAt q (q.length - 1) = ptAt q 0
 ·rw [if_pos hc] at h2 hi ⊢
  obtain ⟨rfl, e⟩ := hc
  have hl : (q.take (q.length - 1)).length = q.length - 1 := by simp
  rw [hl] at h2 hi ⊢
  have hi' : i < q.length - 1 := hi
  by_cases el : i + 1 = q.length - 1
  ·rw [el, Nat.mod_self, ptAt_take _ _ _ hi', ptAt_take _ _ _ (by omega), ← e]
   have := hu i (by omega)
   rw [el] at this
   exact this
  ·rw [Nat.mod_eq_of_lt (by omega), ptAt_take _ _ _ hi', ptAt_take _ _ _ (by omega)]
   exact hu i (by omega)
 ·rw [if_neg hc] at h2 hi ⊢
  cases cl with
  | false =>
   have hi' : i < q.length - 1 := hi
   rw [Nat.mod_eq_of_lt (by omega)]
   exact hu i (by omega)
  | true =>
   have hi' : i < q.length := hi
   by_cases el : i + 1 = q.length
   ·rw [el, Nat.mod_self]
    have := fun e => hc ⟨rfl, e⟩
    rw [show q.length - 1 = i by omega] at this
    exact this
   ·rw [Nat.mod_eq_of_lt (by omega)]
    exact hu i (by omega)
def joinJ (j h : Int) (x y : Sg) : List Pnt := if j = 2 then roundsP y.f.1 y.f.2 h h 0 32 else bevelL x.f.1 x.f.2 x.t.1 x.t.2 x.s.1 x.s.2 y.f.1 y.f.2 y.t.1 y.t.2 y.s.1 y.s.2
def capL (c : Int) (a s o : Pnt) (h : Int) : List LD := if c = 2 then [⟨roundsP a.1 a.2 h h 0 32, true⟩] else if c = 3 then [⟨squareL a.1 a.2 s.1 s.2 o.1 o.2, true⟩] else []
def capsL (c h : Int) (sg : List Sg) : List LD := capL c (sgAt sg 0).f (sgAt sg 0).s (-(sgAt sg 0).s.2, (sgAt sg 0).s.1) h ++ capL c (sgAt sg (sg.length - 1)).t (sgAt sg (sg.length - 1)).s ((sgAt sg (sg.length - 1)).s.2, -(sgAt sg (sg.length - 1)).s.1) h
def strkQ (q : List Pnt) (cl : Bool) (h j c : Int) : List LD := (segsK q h (segN cl q.length)).map bandL ++ cornsK (joinJ j h) (segsK q h (segN cl q.length)) cl (segN cl q.length) ++ (if cl then [] else capsL c h (segsK q h (segN cl q.length)))
def strkL (l : LD) (h j c : Int) : List LD := if (ddP l.pts l.closed).length < 2 then [] else strkQ (ddP l.pts l.closed) l.closed h j c
theorem segsK_at (q : List Pnt) (h : Int) (n i : Nat) (hi : i < n) : sgAt (segsK q h n) i = segP q h i := by simp [sgAt, segsK, hi]
theorem capL_len (c : Int) (a s o : Pnt) (h : Int) : (capL c a s o h).length ≤ 1 := by unfold capL; split <;> (try split) <;> simp
theorem strkL_len (l : LD) (h j c : Int) : (strkL l h j c).length ≤ 2 * l.pts.length := by
 have h0 := ddP_len l.pts l.closed
 unfold strkL
 split
 ·simp
 ·rename_i h2
  unfold strkQ
  generalize ddP l.pts l.closed = q at *
  have h1 := cornsK_len (joinJ j h) (segsK q h (segN l.closed q.length)) l.closed (segN l.closed q.length)
  have hs := segsK_len q h (segN l.closed q.length)
  rw [List.length_append, List.length_append, List.length_map, hs]
  cases hc : l.closed with
  | true =>
   rw [hc] at h1
   simp only [if_true, List.length_nil]
   simp only [segN, cond_true] at h1 ⊢
   omega
  | false =>
   rw [hc] at h1
   simp only [Bool.false_eq_true, if_false]
   have h3 : (capsL c h (segsK q h (segN false q.length))).length ≤ 2 := by
    unfold capsL
    rw [List.length_append]
    have a1 := capL_len c (sgAt (segsK q h (segN false q.length)) 0).f (sgAt (segsK q h (segN false q.length)) 0).s (-(sgAt (segsK q h (segN false q.length)) 0).s.2, (sgAt (segsK q h (segN false q.length)) 0).s.1) h
    have a2 := capL_len c (sgAt (segsK q h (segN false q.length)) ((segsK q h (segN false q.length)).length - 1)).t (sgAt (segsK q h (segN false q.length)) ((segsK q h (segN false q.length)).length - 1)).s ((sgAt (segsK q h (segN false q.length)) ((segsK q h (segN false q.length)).length - 1)).s.2, -(sgAt (segsK q h (segN false q.length)) ((segsK q h (segN false q.length)).length - 1)).s.1) h
    omega
   simp only [segN, cond_false] at h1 h3 ⊢
   omega
theorem squareL_len (a b c d e f : Int) : (squareL a b c d e f).length = 4 := rfl
theorem bevelL_len (a b c d e f g h i j k l : Int) : (bevelL a b c d e f g h i j k l).length = 3 := by unfold bevelL; split <;> rfl
def slim (o : List LD) : Prop := ∀ x, x ∈ o → x.pts.length ≤ 32
theorem slim.many : ∀ {o : List LD}, slim o → manyL o ≤ 32 * o.length
 | [], _ => Nat.le_refl _
 | x :: o, h => by
  have h1 := h x (List.mem_cons_self ..)
  have h2 := slim.many (o := o) (fun y hy => h y (List.mem_cons_of_mem _ hy))
  have e : manyL (x :: o) = x.pts.length + manyL o := by simp [manyL]
  rw [e, List.length_cons]
  omega
theorem slim.app {a b : List LD} (h : slim a) (k : slim b) : slim (a ++ b) := fun x hx => by
 rcases List.mem_append.1 hx with h1 | h1
 ·exact h x h1
 ·exact k x h1
theorem slim.nil : slim [] := fun x hx => by cases hx
theorem slim.one {p : List Pnt} {c : Bool} (h : p.length ≤ 32) : slim [⟨p, c⟩] := fun x hx => by rw [List.mem_singleton.1 hx]; exact h
theorem slim_cap (c : Int) (a s o : Pnt) (h : Int) : slim (capL c a s o h) := by
 unfold capL
 split
 ·exact slim.one (by rw [roundsP_len]; omega)
 ·split
  ·exact slim.one (by rw [squareL_len]; omega)
  ·exact slim.nil
theorem slim_join (j h : Int) (x y : Sg) : (joinJ j h x y).length ≤ 32 := by
 unfold joinJ
 split
 ·rw [roundsP_len]; omega
 ·rw [bevelL_len]; omega
theorem slim_corns (j h : Int) (sg : List Sg) (cl : Bool) : ∀ k, slim (cornsK (joinJ j h) sg cl k)
 | 0 => slim.nil
 | k + 1 => by
  rw [cornsK]
  refine slim.app (slim_corns j h sg cl k) ?_
  split
  ·exact slim.nil
  ·exact slim.one (slim_join ..)
theorem slim_strk (l : LD) (h j c : Int) : slim (strkL l h j c) := by
 unfold strkL
 split
 ·exact slim.nil
 ·unfold strkQ
  refine slim.app (slim.app (fun x hx => ?_) (slim_corns _ _ _ _ _)) ?_
  ·obtain ⟨y, _, rfl⟩ := List.mem_map.1 hx
   show 4 ≤ 32
   omega
  ·split
   ·exact slim.nil
   ·exact slim.app (slim_cap _ _ _ _ _) (slim_cap _ _ _ _ _)
def strkS (ds : List LD) (h j c : Int) : List LD := ds.flatMap fun l => strkL l h j c
theorem strkS_succ (ds : List LD) (h j c : Int) (k : Nat) (hk : k < ds.length) : strkS (ds.take (k + 1)) h j c = strkS (ds.take k) h j c ++ strkL (lnAt ds k) h j c := by
 unfold strkS
 rw [List.take_add_one, List.getElem?_eq_getElem hk, List.flatMap_append]
 simp [lnAt, hk]
theorem strkS_len : ∀ (ds : List LD) (h j c : Int), (strkS ds h j c).length ≤ 2 * manyL ds
 | [], _, _, _ => by simp [strkS]
 | x :: ds, h, j, c => by
  have h1 := strkL_len x h j c
  have h2 := strkS_len ds h j c
  have e : manyL (x :: ds) = x.pts.length + manyL ds := by simp [manyL]
  unfold strkS at h2 ⊢
  rw [List.flatMap_cons, List.length_append, e]
  omega
theorem slim_strkS : ∀ (ds : List LD) (h j c : Int), slim (strkS ds h j c)
 | [], _, _, _ => slim.nil
 | x :: ds, h, j, c => by
  unfold strkS
  rw [List.flatMap_cons]
  exact slim.app (slim_strk x h j c) (slim_strkS ds h j c)
def stK (ls : List LD) (p : PD) (ns : List Int) : Nat → Option (List LD)
 | 0 => some []
 | k + 1 => match stK ls p ns k with
  | none => none
  | some o => if (lnAt ls k).pts.length = 0 then some o else if (dsV ns p.f (lnAt ls k).pts (lnAt ls k).closed).2 = true then some (o ++ strkS (dsV ns p.f (lnAt ls k).pts (lnAt ls k).closed).1 (p.w / 2) p.j p.c) else none
theorem stK_none (ls : List LD) (p : PD) (ns : List Int) {k : Nat} (h : stK ls p ns k = none) : ∀ j, stK ls p ns (k + j) = none
 | 0 => h
 | j + 1 => by rw [← Nat.add_assoc, stK, stK_none ls p ns h j]
theorem manyL_app' (a b : List LD) : manyL (a ++ b) = manyL a + manyL b := by simp [manyL]
theorem stK_more (ls : List LD) (p : PD) (ns : List Int) {k m : Nat} (h : ∀ o, stK ls p ns k = some o → m ≤ manyL o) : ∀ j o, stK ls p ns (k + j) = some o → m ≤ manyL o
 | 0, o, ho => h o ho
 | j + 1, o, ho => by
  rw [← Nat.add_assoc, stK] at ho
  cases hc : stK ls p ns (k + j) with
  | none => rw [hc] at ho; cases ho
  | some o' =>
   rw [hc] at ho
   have h1 := stK_more ls p ns h j o' hc
   simp only at ho
   split at ho
   ·injection ho with e; rw [← e]; exact h1
   ·split at ho
    ·injection ho with e; rw [← e, manyL_app']; omega
    ·cases ho
theorem stK_bd (ls : List LD) (p : PD) (ns : List Int) : ∀ k o, k ≤ ls.length → stK ls p ns k = some o → o.length ≤ 1200 * manyL (ls.take k) ∧ slim o
 | 0, o, _, h => by
  simp only [stK] at h
  injection h with e
  rw [← e]
  exact ⟨by simp, slim.nil⟩
 | k + 1, o, hk, h => by
  rw [stK] at h
  rw [manyL_step ls k (by omega)]
  cases hc : stK ls p ns k with
  | none => rw [hc] at h; cases h
  | some o' =>
   rw [hc] at h
   obtain ⟨i1, i2⟩ := stK_bd ls p ns k o' (by omega) hc
   simp only at h
   split at h
   ·injection h with e; rw [← e]; exact ⟨by omega, i2⟩
   ·rename_i hz
    split at h
    ·injection h with e
     rw [← e, List.length_append]
     have b1 := (dsV_bd ns p.f (lnAt ls k).pts (lnAt ls k).closed).2
     have b2 := strkS_len (dsV ns p.f (lnAt ls k).pts (lnAt ls k).closed).1 (p.w / 2) p.j p.c
     exact ⟨by omega, slim.app i2 (slim_strkS _ _ _ _)⟩
    ·cases h
def stkV (ls : List LD) (p : PD) (ns : List Int) : List LD × Bool :=
 if penB p ns = true ∧ manyL ls ≤ 600 ∧ nearL ls = true then (if p.w = 0 then ([], true) else match stK ls p ns ls.length with
  | none => ([], false)
  | some o => if manyL o ≤ 4800 then (o, true) else ([], false)) else ([], false)
structure GQ (q : List Pnt) (cl : Bool) (h : Int) : Prop where
 two : 2 ≤ q.length
 many : q.length ≤ 600
 near : ∀ i, i < q.length → nearB (ptAt q i) = true
 apart : apartQ cl q
 h0 : 0 ≤ h
 h1 : h ≤ 4194304
theorem GQ.nx {q : List Pnt} {cl : Bool} {h : Int} (g : GQ q cl h) (i : Nat) : nearB (nxtP q i) = true := g.near _ (Nat.mod_lt _ (by have := g.two; omega))
theorem segN_le (cl : Bool) (n : Nat) : segN cl n ≤ n := by unfold segN; cases cl <;> simp
theorem segN_pos {cl : Bool} {n : Nat} (h : 2 ≤ n) : 0 < segN cl n := by unfold segN; cases cl <;> simp <;> omega
theorem GQ.seg {q : List Pnt} {cl : Bool} {h : Int} (g : GQ q cl h) {i : Nat} (hi : i < segN cl q.length) : segP q h i = ⟨ptAt q i, nxtP q i, sideP (ptAt q i) (nxtP q i) h⟩ := by
 unfold segP sdV
 rw [if_pos ⟨g.near i (Nat.lt_of_lt_of_le hi (segN_le _ _)), g.nx i, g.apart i hi, g.h0, g.h1⟩]
theorem side_wid (a b : Pnt) (h : Int) : wid (sideP a b h).1 ∧ wid (sideP a b h).2 := by
 unfold sideP wid
 have h1 := fmV_bd h (divV (a.2 - b.2) (szV a b))
 have h2 := fmV_bd h (divV (b.1 - a.1) (szV a b))
 simp only
 omega
theorem side_bd (a b : Pnt) (h : Int) : (-1099511627776 ≤ (sideP a b h).1 ∧ (sideP a b h).1 ≤ 1099511627776) ∧ (-1099511627776 ≤ (sideP a b h).2 ∧ (sideP a b h).2 ≤ 1099511627776) := ⟨fmV_bd _ _, fmV_bd _ _⟩
theorem near_wid {p : Pnt} (h : nearB p = true) : wid p.1 ∧ wid p.2 := by
 obtain ⟨h1, h2⟩ := nearB_nr h
 unfold nr at h1 h2
 unfold wid
 omega
theorem GQ.wsg {q : List Pnt} {cl : Bool} {h : Int} (g : GQ q cl h) {i : Nat} (hi : i < segN cl q.length) : wsg (segP q h i) := by
 rw [g.seg hi]
 exact ⟨near_wid (g.near i (Nat.lt_of_lt_of_le hi (segN_le _ _))), near_wid (g.nx i), side_wid _ _ _⟩
def joinS (j h : Int) (a p b : Pnt) : List Pnt := if j = 2 then roundsP p.1 p.2 h h 0 32 else bevelL a.1 a.2 p.1 p.2 (sideP a p h).1 (sideP a p h).2 p.1 p.2 b.1 b.2 (sideP p b h).1 (sideP p b h).2
def prvP (q : List Pnt) (k : Nat) : Pnt := ptAt q ((k + q.length - 1) % q.length)
def cornS (j h : Int) (q : List Pnt) (cl : Bool) : Nat → List LD
 | 0 => []
 | i + 1 => cornS j h q cl i ++ (if cl = true ∨ (0 < i ∧ i < q.length - 1) then [⟨joinS j h (prvP q i) (ptAt q i) (nxtP q i), true⟩] else [])
theorem prev_mod {n k : Nat} (h : k < n) (h0 : 0 < k) : (k + n - 1) % n = k - 1 := by
 rw [show k + n - 1 = (k - 1) + n by omega, Nat.add_mod_right, Nat.mod_eq_of_lt (by omega)]
theorem prev_mod0 {n : Nat} (h : 0 < n) : (0 + n - 1) % n = n - 1 := by rw [Nat.zero_add, Nat.mod_eq_of_lt (by omega)]
theorem cornS_step {q : List Pnt} {cl : Bool} {h : Int} (g : GQ q cl h) (j : Int) : ∀ k, k ≤ segN cl q.length → cornS j h q cl k = cornsK (joinJ j h) (segsK q h (segN cl q.length)) cl k
  | 0, _ => rfl
  | k + 1, hk => by
    have h2 := g.two
    have hsl := segN_le cl q.length
    rw [cornS, cornsK, cornS_step g j k (by omega)]
    congr 1
    rw [segsK_len]
    by_cases hc : k = 0 ∧ cl = false
    · rw [if_pos hc, if_neg (by rintro (e | ⟨e, _⟩); · rw [hc.2] at e; cases e
                                · omega)]
    · rw [if_neg hc]
      have hyes : cl = true ∨ (0 < k ∧ k < q.length - 1) := by
        cases cl with
        | true => exact Or.inl rfl
        | false =>
          right
          have hs : segN false q.length = q.length - 1 := rfl
          rw [hs] at hk
          refine ⟨?_, by omega⟩
          rcases Nat.eq_zero_or_pos k with e | e
          · exact absurd ⟨e, rfl⟩ hc
          · exact e
      rw [if_pos hyes]
      have hm : (k + segN cl q.length - 1) % segN cl q.length < segN cl q.length := Nat.mod_lt _ (by omega)
      rw [segsK_at _ _ _ _ hm, segsK_at _ _ _ _ (by omega), g.seg hm, g.seg (show k < segN cl q.length by omega)]
      have e1 : (k + segN cl q.length - 1) % segN cl q.length = (k + q.length - 1) % q.length ∧ ((k + segN cl q.length - 1) % segN cl q.length + 1) % q.length = k := by
        cases cl with
        | true =>
          have hs : segN true q.length = q.length := rfl
          rw [hs] at hk ⊢
          refine ⟨rfl, ?_⟩
          rcases Nat.eq_zero_or_pos k with e | e
          · subst e
            rw [prev_mod0 (by omega), Nat.sub_add_cancel (by omega), Nat.mod_self]
          · rw [prev_mod (by omega) e, Nat.sub_add_cancel e, Nat.mod_eq_of_lt (by omega)]
        | false =>
          have hs : segN false q.length = q.length - 1 := rfl
          rw [hs] at hk ⊢
          have e : 0 < k := by
            rcases hyes with e | e
            · cases e
            · exact e.1
          rw [prev_mod (by omega) e, prev_mod (by omega) e, Nat.sub_add_cancel e, Nat.mod_eq_of_lt (by omega)]
          exact ⟨rfl, rfl⟩
      have e2 : nxtP q ((k + segN cl q.length - 1) % segN cl q.length) = ptAt q k := by unfold nxtP; rw [e1.2]
      rw [e2, e1.1]
      rfl
theorem cornS_all {q : List Pnt} {cl : Bool} {h : Int} (g : GQ q cl h) (j : Int) : cornS j h q cl q.length = cornsK (joinJ j h) (segsK q h (segN cl q.length)) cl (segN cl q.length) := by
  have h2 := g.two
  cases cl with
  | true => exact cornS_step g j q.length (Nat.le_refl _)
  | false =>
    have hs : segN false q.length = q.length - 1 := rfl
    rw [← cornS_step g j (segN false q.length) (Nat.le_refl _), hs]
    obtain ⟨m, hm⟩ : ∃ m, q.length = m + 1 := ⟨q.length - 1, by omega⟩
    rw [hm, Nat.add_sub_cancel, cornS, if_neg (by rintro (e | ⟨_, e⟩); · cases e
                                                  · omega), List.append_nil]
def capsS (c h : Int) (q : List Pnt) : List LD :=
 if c = 2 then [⟨roundsP (ptAt q 0).1 (ptAt q 0).2 h h 0 32, true⟩, ⟨roundsP (lastP q).1 (lastP q).2 h h 0 32, true⟩]
 else if c = 3 then [⟨squareL (ptAt q 0).1 (ptAt q 0).2 (sideP (ptAt q 0) (ptAt q 1) h).1 (sideP (ptAt q 0) (ptAt q 1) h).2 (-(sideP (ptAt q 0) (ptAt q 1) h).2) (sideP (ptAt q 0) (ptAt q 1) h).1, true⟩,
  ⟨squareL (lastP q).1 (lastP q).2 (sideP (ptAt q (q.length - 2)) (lastP q) h).1 (sideP (ptAt q (q.length - 2)) (lastP q) h).2 (sideP (ptAt q (q.length - 2)) (lastP q) h).2 (-(sideP (ptAt q (q.length - 2)) (lastP q) h).1), true⟩] else []
theorem capsS_is {q : List Pnt} {h : Int} (g : GQ q false h) (c : Int) : capsS c h q = capsL c h (segsK q h (segN false q.length)) := by
 have h2 := g.two
 have hs : segN false q.length = q.length - 1 := rfl
 unfold capsL capsS
 rw [segsK_len, segsK_at _ _ _ _ (segN_pos h2), segsK_at _ _ _ _ (by have := segN_pos (cl := false) h2; omega), g.seg (segN_pos h2), g.seg (show segN false q.length - 1 < _ by have := segN_pos (cl := false) h2; omega), hs]
 have e0 : nxtP q 0 = ptAt q 1 := by unfold nxtP; rw [Nat.zero_add, Nat.mod_eq_of_lt (by omega)]
 have e1 : nxtP q (q.length - 1 - 1) = lastP q := by unfold nxtP lastP; rw [Nat.sub_add_cancel (by omega), Nat.mod_eq_of_lt (by omega)]
 rw [e0, e1, show q.length - 1 - 1 = q.length - 2 by omega]
 unfold capL
 split
 ·rfl
 ·split
  ·rfl
  ·rfl
def strkR (q : List Pnt) (cl : Bool) (h j c : Int) : List LD := (segsK q h (segN cl q.length)).map bandL ++ cornS j h q cl q.length ++ (if cl then [] else capsS c h q)
theorem strkR_is {q : List Pnt} {cl : Bool} {h : Int} (g : GQ q cl h) (j c : Int) : strkR q cl h j c = strkQ q cl h j c := by
 unfold strkR strkQ
 rw [cornS_all g]
 cases cl with
 | true => rfl
 | false => rw [capsS_is g]
theorem GQ.of {l : LD} {h : Int} (h2 : 2 ≤ (ddP l.pts l.closed).length) (hm : l.pts.length ≤ 600) (hn : ∀ x, x ∈ l.pts → nearB x = true) (h0 : 0 ≤ h) (h1 : h ≤ 4194304) : GQ (ddP l.pts l.closed) l.closed h :=
 ⟨h2, Nat.le_trans (ddP_len _ _) hm, fun i hi => hn _ (ddP_in _ _ _ (ptAt_mem hi)), ddP_apart _ _ h2, h0, h1⟩
theorem mul_bd {a b A B : Int} (a0 : 0 ≤ a) (a1 : a ≤ A) (b0 : -B ≤ b) (b1 : b ≤ B) (hB : 0 ≤ B) : -(A * B) ≤ a * b ∧ a * b ≤ A * B := by
 have h1 : a * B ≤ A * B := Int.mul_le_mul_of_nonneg_right a1 hB
 have h2 : a * b ≤ a * B := Int.mul_le_mul_of_nonneg_left b1 a0
 have h3 : a * (-B) ≤ a * b := Int.mul_le_mul_of_nonneg_left b0 a0
 rw [Int.mul_neg] at h3
 omega
theorem fm_small {h s : Int} (h0 : 0 ≤ h) (h1 : h ≤ 4194304) (s0 : -200000 ≤ s) (s1 : s ≤ 200000) : -20000000 ≤ fmV h s ∧ fmV h s ≤ 20000000 := by
 have hm := mul_bd h0 h1 s0 s1 (by omega)
 unfold fmV cutM
 split
 ·omega
 ·omega
theorem cosV_bd (k : Nat) : -200000 ≤ cosV k ∧ cosV k ≤ 200000 := by
 have := sinV_bd (k + 8)
 have e : sinV (k + 8) = cosV k := by unfold sinV cosV; congr 1 <;> omega
 rw [e] at this
 exact this
theorem el_near {p : Pnt} {h : Int} (hp : nearB p = true) (h0 : 0 ≤ h) (h1 : h ≤ 4194304) : elV p.1 p.2 h h = (roundsP p.1 p.2 h h 0 32, true) := by
 obtain ⟨n1, n2⟩ := nearB_nr hp
 unfold nr at n1 n2
 have k1 : okEl p.1 p.2 h h = true := by
  unfold okEl
  simp only [List.all_cons, List.all_nil, Bool.and_true, Bool.and_eq_true, decide_eq_true_eq]
  exact ⟨⟨fixB_iff.2 (by omega), fixB_iff.2 (by omega), fixB_iff.2 (by omega), fixB_iff.2 (by omega)⟩, h0, h0⟩
 have k2 : ptsB (roundsP p.1 p.2 h h 0 32) = true := by
  unfold ptsB
  rw [List.all_eq_true]
  intro x hx
  unfold roundsP at hx
  obtain ⟨k, _, rfl⟩ := List.mem_map.1 hx
  have c := fm_small h0 h1 (cosV_bd (0 + k)).1 (cosV_bd (0 + k)).2
  have s := fm_small h0 h1 (sinV_bd (0 + k)).1 (sinV_bd (0 + k)).2
  unfold roundP ptB
  simp only [Bool.and_eq_true]
  exact ⟨fixB_iff.2 (by omega), fixB_iff.2 (by omega)⟩
 unfold elV
 rw [if_pos ⟨k1, k2⟩]
theorem run_qs (T t1 t2 : TypeId) (z0 z1 : Value) (bytes : Nat) (ht1 : Tryz.prog.underlying t1 = some (.slice T)) (ht2 : Tryz.prog.underlying t2 = some (.slice T))
  (hinfo : (Tryz.prog.info? T).map (fun i => (i.zero, i.size, i.bytes)) = some (some (.agg #[z0, z1]), 2, bytes)) (hb : bytes ≤ 64) (hzz : (Value.agg #[z0, z1]).cells.size = 2)
  (ty : TypeId) (w : World) (B B2 : Nat) (v u : Value) (l news : List VV) (hown : OwnQ T w B v l) (hu : OwnQ T w B2 u news) (h1 : ∀ x ∈ flat2 news, x.oneCell' = true) (hl : l.length + news.length ≤ 10000000) (hB : B ≤ w.heap.size) :
  ∃ v' w', (Builtin.append_ #[t1, t2] ty #[v, u]).run Tryz.prog w = .ok v' w' ∧ OwnQ T w' B v' (l ++ news) ∧ Ext v v' w w' := by
 by_cases h0 : 0 < news.length
 ·rcases OwnQ.form hu with ⟨_, e⟩ | ⟨g, c, rfl, _, _, _, _, hc, _⟩
  ·rw [e] at h0; simp at h0
  ·obtain ⟨g', c', w', r1, r2, r3⟩ := run_q T t1 t2 z0 z1 bytes ht1 ht2 hinfo hb hzz ty w B v l news hown g 0 c (fun i hi => by rw [Nat.zero_add]; exact hc i hi) h1 h0 hl hB
   exact ⟨_, w', r1, r2, r3⟩
 ·have hn : news = [] := List.eq_nil_of_length_eq_zero (by omega)
  subst hn
  obtain ⟨i0, hi, _⟩ := Option.map_eq_some_iff.1 hinfo
  obtain ⟨sa, sn, sc, hv⟩ := hown.slice
  subst hv
  have hle : sn ≤ sc := by
   rcases OwnQ.form hown with ⟨e, _⟩ | ⟨g, c, e, _, _, h, _⟩
   ·injection e with e1 e2 e3; omega
   ·injection e with e1 e2 e3; omega
  obtain ⟨ua, un, uc, hue⟩ := hu.slice
  subst hue
  have hu0 : un = 0 := by
   rcases OwnQ.form hu with ⟨e, _⟩ | ⟨g, c, e, _, _, h, _⟩
   ·injection e
   ·injection e
  subst hu0
  refine ⟨_, w, ?_, by rw [List.append_nil]; exact hown, Ext.refl _ _⟩
  rw [append_mix t1 t2 ty T ht1 ht2]
  cases sa <;> cases ua <;> simp [Builtin.append_, run_underlying ht1, sizeOf, typeInfo, hi, Builtin.lenOf, Builtin.firstCells, hle, storeCells, loadCells, loadCellsFrom]
theorem wpl_qs (T t1 t2 : TypeId) (z0 z1 : Value) (bytes : Nat) (ht1 : Tryz.prog.underlying t1 = some (.slice T)) (ht2 : Tryz.prog.underlying t2 = some (.slice T))
  (hinfo : (Tryz.prog.info? T).map (fun i => (i.zero, i.size, i.bytes)) = some (some (.agg #[z0, z1]), 2, bytes)) (hb : bytes ≤ 64) (hzz : (Value.agg #[z0, z1]).cells.size = 2)
  (w : World) {ops : Array Oper} {rest : List Oper} {o : Oper} {a : Act} {Q : PQ} (hgd : o.guard = none) (s x : Operand) (ho : o.op = .call { callee := .builtin .append, args := #[s, x], argTypes := #[t1, t2] })
  (B B2 : Nat) (v u : Value) (l news : List VV) (hs : a.eval s = v) (hx : a.eval x = u) (hown : OwnQ T w B v l) (hu : OwnQ T w B2 u news) (h1 : ∀ x ∈ flat2 news, x.oneCell' = true) (hl : l.length + news.length ≤ 10000000) (hB : B ≤ w.heap.size)
  (h : ∀ v' w', OwnQ T w' B v' (l ++ news) → Ext v v' w w' → wpList Tryz.prog ops Q rest (a.put o.dst v') w') : wpList Tryz.prog ops Q (o :: rest) a w := by
 refine wpList_plain hgd fun K hK => ?_
 obtain ⟨v', w', hr, h2, h3⟩ := run_qs T t1 t2 z0 z1 bytes ht1 ht2 hinfo hb hzz o.type w B B2 v u l news hown hu h1 hl hB
 unfold Oper.wp execOp
 simp only [ho, resolve, invoke, builtin, Sem.run_bind, Sem.run_pure, Result.andThen_ok, List.map_toArray, List.map_cons, List.map_nil, hs, hx, hr]
 exact hK _ _ (h v' w' h2 h3)
structure ItsOk (w : World) (B : Nat) (it : Its) : Prop where
 pts : ∀ i, i < it.length → OwnP w B (itAt it i).1 (itAt it i).2.pts
 apart : ∀ i j, i ≠ j → i < it.length → j < it.length → ∀ b, (itAt it i).1.ownBlock = some b → (itAt it j).1.ownBlock ≠ some b
theorem ItsOk.nil (w : World) (B : Nat) : ItsOk w B [] := ⟨fun i hi => absurd hi (by simp), fun i j _ hi => absurd hi (by simp)⟩
theorem OwnLn.its {w : World} {B : Nat} {v : Value} {it : Its} (h : OwnLn w B v it) : ItsOk w B it := ⟨h.pts, h.apart⟩
theorem ItsOk.nw {w w' : World} {B : Nat} {it : Its} (h : ItsOk w B it) (k : Nw w w') : ItsOk w' B it := ⟨fun i hi => (h.pts i hi).nw k, h.apart⟩
theorem ItsOk.base {w : World} {B B' : Nat} {it : Its} (h : ItsOk w B it) (hB : B' ≤ B) : ItsOk w B' it := ⟨fun i hi => OwnQ.base (h.pts i hi) hB, h.apart⟩
theorem itAt_l (a b : Its) (i : Nat) (h : i < a.length) : itAt (a ++ b) i = itAt a i := by simp [itAt, List.getElem?_append, h]
theorem itAt_r (a b : Its) (i : Nat) (h : ¬ i < a.length) : itAt (a ++ b) i = itAt b (i - a.length) := by simp [itAt, List.getElem?_append, h]
theorem ItsOk.app {w0 w : World} {B : Nat} {a b : Its} (h1 : ItsOk w0 B a) (k : Nw w0 w) (h2 : ItsOk w w0.heap.size b) (hB : B ≤ w0.heap.size) : ItsOk w B (a ++ b) := by
 refine ⟨fun i hi => ?_, fun i j hij hi hj x hx => ?_⟩
 ·rw [List.length_append] at hi
  by_cases e : i < a.length
  ·rw [itAt_l _ _ _ e]; exact (h1.pts i e).nw k
  ·rw [itAt_r _ _ _ e]; exact OwnQ.base (h2.pts _ (by omega)) hB
 ·rw [List.length_append] at hi hj
  by_cases e : i < a.length
  ·rw [itAt_l _ _ _ e] at hx
   have b1 := (OwnQ.lt (h1.pts i e) x hx).2
   by_cases e2 : j < a.length
   ·rw [itAt_l _ _ _ e2]; exact h1.apart i j hij e e2 x hx
   ·rw [itAt_r _ _ _ e2]
    intro e3
    have := (OwnQ.lt (h2.pts _ (by omega)) x e3).1
    omega
  ·rw [itAt_r _ _ _ e] at hx
   have b1 := (OwnQ.lt (h2.pts _ (by omega)) x hx).1
   by_cases e2 : j < a.length
   ·rw [itAt_l _ _ _ e2]
    intro e3
    have := (OwnQ.lt (h1.pts j e2) x e3).2
    omega
   ·rw [itAt_r _ _ _ e2]
    exact h2.apart _ _ (by omega) (by omega) (by omega) x hx
theorem ItsOk.one {w : World} {B : Nat} {it : Its} (h : ItsOk w B it) : ∀ x ∈ flat2 (vLn it), x.oneCell' = true := by
 intro x hx
 have key : ∀ (l : Its), (∀ p, p ∈ l → ∃ a n c, p.1 = Value.slice a n c) → ∀ x ∈ flat2 (vLn l), x.oneCell' = true := by
  intro l
  induction l with
  | nil => intro _ x hx; simp [vLn, flat2] at hx
  | cons p l ih =>
   intro hp x hx
   simp only [vLn, List.map_cons, flat2, List.mem_cons] at hx
   rcases hx with rfl | rfl | hx
   ·obtain ⟨a, n, c, e⟩ := hp p (List.mem_cons_self ..); rw [e]; rfl
   ·rfl
   ·exact ih (fun q hq => hp q (List.mem_cons_of_mem _ hq)) x hx
 refine key it (fun p hp => ?_) x hx
 obtain ⟨i, hi, rfl⟩ := List.getElem_of_mem hp
 have := OwnQ.slice (h.pts i hi)
 unfold itAt at this
 rw [show it.getD i (undef, noLD) = it[i] by simp [hi]] at this
 exact this
theorem ItsOk.own {w w' : World} {B : Nat} {v : Value} {it : Its} (h : ItsOk w B it) (k : Nw w w') (hv : OwnQ 25 w' w.heap.size v (vLn it)) (hB : B ≤ w.heap.size) : OwnLn w' B v it :=
 ⟨OwnQ.base hv hB, fun i hi => (h.pts i hi).nw k, fun i hi b hb e => by
  have h1 := (OwnQ.lt (h.pts i hi) b hb).2
  have h2 := (OwnQ.lt hv b e).1
  omega, h.apart⟩
theorem OwnLn.puts {wS w w' : World} {B : Nat} {v v' u : Value} {it it2 : Its} (h : OwnLn wS B v it) (k : Nw wS w) (hB : B ≤ wS.heap.size) (hu : ItsOk w wS.heap.size it2) (ho : OwnQ 25 w' B v' (vLn (it ++ it2))) (x : Ext v v' w w') : OwnLn w' B v' (it ++ it2) := by
 have hi0 : ItsOk w B (it ++ it2) := ItsOk.app h.its k hu hB
 have hvl : ∀ b, v.ownBlock = some b → b < wS.heap.size := fun b hb => (OwnQ.lt h.own b hb).2
 have hfar : ∀ i, i < (it ++ it2).length → ∀ b, (itAt (it ++ it2) i).1.ownBlock = some b → v.ownBlock ≠ some b := fun i hi b hb e => by
  rw [List.length_append] at hi
  by_cases e1 : i < it.length
  ·rw [itAt_l _ _ _ e1] at hb; exact h.far i e1 b hb e
  ·rw [itAt_r _ _ _ e1] at hb
   have h1 := (OwnQ.lt (hu.pts _ (by omega)) b hb).1
   have h2 := hvl b e
   omega
 refine ⟨ho, fun i hi => ?_, fun i hi b hb => ?_, hi0.apart⟩
 ·refine OwnQ.keep (hi0.pts i hi) x ?_
  cases hc : (itAt (it ++ it2) i).1.ownBlock with
  | none => exact Or.inl rfl
  | some b => exact Or.inr (fun e => hfar i hi b hc e.symm)
 ·exact Ext.apart x (OwnQ.lt (hi0.pts i hi) b hb).2 (hfar i hi b hb)
set_option maxHeartbeats 1000000 in
theorem iaddLns (w : World) (b o B B2 : Nat) (v u : Value) (it it2 : Its) (hbox : w.cell? ⟨b, o, none⟩ = some v) (hfr : w.frozen? ⟨b, o, none⟩ = false) (hown : OwnQ 25 w B v (vLn it)) (hu : OwnQ 25 w B2 u (vLn it2)) (h1 : ∀ x ∈ flat2 (vLn it2), x.oneCell' = true)
  (hlen : it.length + it2.length ≤ 10000000) (hB : B ≤ w.heap.size) (hne : v.ownBlock ≠ some b) :
  Calls Tryz.prog 44 #[.pointer (some ⟨b, o, none⟩), u] w fun e w' => e = .returned (.tuple #[]) ∧ ∃ v' w1, OwnQ 25 w1 B v' (vLn (it ++ it2)) ∧ Ext v v' w w1 ∧ w' = w1.setCell ⟨b, o, none⟩ v' := by
 have hb : b < w.heap.size := World.block_lt_of_cell? w ⟨b, o, none⟩ hbox
 obtain ⟨sa, sn, sc, rfl⟩ := OwnQ.slice hown
 obtain ⟨ua, un, uc, rfl⟩ := OwnQ.slice hu
 have HO : Hid _ := hown
 have HU : Hid _ := hu
 have H1 : Hid _ := h1
 have HB : Hid (B ≤ w.heap.size) := hB
 have HL : Hid (it.length + it2.length ≤ 10000000) := hlen
 have HE : Hid ((Value.slice sa sn sc).ownBlock ≠ some b) := hne
 clear hown hu hB hlen hne h1
 go_enter Tryz.func44, Tryz.ntmps44
 go_wp2_with (at_builtin; (refine wpl_qs 25 65 29 (.slice none 0 0) (.bool false) 32 under_llnsD under_lns info_line (by decide) rfl w rfl (.tmp 7) (.tmp 8) rfl B B2 (.slice sa sn sc) (.slice ua un uc) (vLn it) (vLn it2) rfl rfl HO.out HU.out H1.out ?cl HB.out ?_))
 case cl => rw [vLn_len, vLn_len]; exact HL.out
 intro v' w1 h2 h3
 rw [← vLn_append] at h2
 obtain ⟨xa, xn, xc, hx⟩ := OwnQ.slice h2
 subst hx
 have y0 : w1.cell? ⟨b, o, none⟩ = some (.slice sa sn sc) := (Ext.cell h3 hb HE.out o).trans hbox
 have y1 : w1.frozen? ⟨b, o, none⟩ = false := (World.frozen?_of_block (w := w) (a := ⟨b, o, none⟩) (h3.1.block b hb (fun e => HE.out e.symm))).trans hfr
 have H2 : Hid _ := h2
 have H3 : Hid _ := h3
 clear h2 h3 hbox hfr
 go_wp2
 go_end0
 exact ⟨rfl, _, w1, H2.out, H3.out, rfl⟩
abbrev Prts := List (Value × Its)
def prAt (ps : Prts) (i : Nat) : Value × Its := ps.getD i (undef, [])
def flatP (ps : Prts) : Its := ps.flatMap (·.2)
theorem flatP_succ (ps : Prts) (k : Nat) (hk : k < ps.length) : flatP (ps.take (k + 1)) = flatP (ps.take k) ++ (prAt ps k).2 := by
 unfold flatP
 rw [List.take_add_one, List.getElem?_eq_getElem hk, List.flatMap_append]
 simp [prAt, hk]
theorem flatP_le (ps : Prts) (k : Nat) : (flatP (ps.take k)).length ≤ (flatP ps).length := by
 have e : flatP ps = flatP (ps.take k) ++ flatP (ps.drop k) := by
  unfold flatP
  rw [← List.flatMap_append, List.take_append_drop]
 rw [e, List.length_append]
 omega
set_option maxRecDepth 100000 in
set_option maxHeartbeats 4000000 in
theorem ijoined (w : World) (g c : Nat) (ps : Prts) (hg : g < w.heap.size) (hps : ps.length ≤ 3) (hfl : (flatP ps).length ≤ 1000000) (hc : ∀ i, i < ps.length → w.cell? ⟨g, i, none⟩ = some (prAt ps i).1)
  (hr : ∀ i, i < ps.length → ∃ B2, OwnQ 25 w B2 (prAt ps i).1 (vLn (prAt ps i).2)) (h1 : ∀ i, i < ps.length → ∀ x ∈ flat2 (vLn (prAt ps i).2), x.oneCell' = true) :
  Calls Tryz.prog 71 #[.slice (some ⟨g, 0, none⟩) ps.length c] w fun e w' => ∃ v, e = .returned v ∧ OwnQ 25 w' w.heap.size v (vLn (flatP ps)) ∧ Nw w w' := by
 have HS : Hid (∀ k, k < ps.length → flatP (ps.take (k + 1)) = flatP (ps.take k) ++ (prAt ps k).2) := flatP_succ ps
 have HL : Hid (∀ k, (flatP (ps.take k)).length ≤ 1000000) := fun k => Nat.le_trans (flatP_le ps k) hfl
 have H0 : Hid (flatP (ps.take 0) = []) := by show _ = _; simp [flatP]
 have HT : Hid (flatP (ps.take ps.length) = flatP ps) := by show _ = _; rw [List.take_length]
 have HC : Hid _ := hc
 have HR : Hid _ := hr
 have H1 : Hid _ := h1
 clear hc hr h1 hfl
 obtain ⟨F, hF⟩ : ∃ F : Nat → Its, (fun k => flatP (ps.take k)) = F := ⟨_, rfl⟩
 have hF' : ∀ k, flatP (ps.take k) = F k := fun k => congrFun hF k
 simp only [hF'] at HS HL H0 HT
 generalize flatP ps = R at *
 clear hF hF'
 obtain ⟨n, hn⟩ : ∃ n, ps.length = n := ⟨_, rfl⟩
 rw [hn] at HS HT HC HR H1 hps ⊢
 clear hn
 obtain ⟨W, hW⟩ : ∃ W, w.alloc (.cells #[.slice none 0 0] 65) = W := ⟨_, rfl⟩
 have z0 : W.cell? ⟨w.heap.size, 0, none⟩ = some (.slice none 0 0) := by rw [← hW]; simp
 have zf : W.frozen? ⟨w.heap.size, 0, none⟩ = false := by rw [← hW]; exact World.frozen?_alloc_at _ _ _ _ rfl
 have NW : Hid (Nw w W) := by show Nw _ _; rw [← hW]; exact (Below.refl _ _).alloc (Nat.le_refl _) _
 have hs : W.heap.size = w.heap.size + 1 := by rw [← hW]; simp
 have HW : Hid (_ = W) := hW
 clear hW
 go_enter Tryz.func71, Tryz.ntmps71
 go_upto_region 2 with fail
 rw [HW.out]
 go_wp2
 have ST : Hid (W.cell? ⟨w.heap.size, 0, none⟩ = some (.slice none 0 0) ∧ W.frozen? ⟨w.heap.size, 0, none⟩ = false) := ⟨z0, zf⟩
 clear z0 zf HW
 go_loopw [8] (fun i wr => ∃ (k : Nat) (v : Value), k ≤ n ∧ i = .int .i64 (k : Int) ∧ wr.cell? ⟨w.heap.size, 0, none⟩ = some v ∧ wr.frozen? ⟨w.heap.size, 0, none⟩ = false ∧ OwnQ 25 wr (w.heap.size + 1) v (vLn (F k)) ∧ Nw w wr) (fun i _ => n - (intOf i).toNat)
 case atStart => exact ⟨0, _, Nat.zero_le _, rfl, ST.out.1, ST.out.2, by rw [H0.out]; exact OwnQ.nil _ _ _, NW.out⟩
 case round =>
  obtain ⟨k, v, hk, rfl, q0, q1, ho, nw⟩ := hrel
  have HO : Hid (OwnQ 25 wr (w.heap.size + 1) v (vLn (F k))) := ho
  have NWr : Hid (Nw w wr) := nw
  obtain ⟨va, vn, vc, hv⟩ := OwnQ.slice ho
  subst hv
  clear ho nw
  by_cases hlt : k < n
  ·have d1 : decide ((k : Int) < (n : Int)) = true := by simp; omega
   have p0 : wr.cell? ⟨g, k, none⟩ = some (prAt ps k).1 := ((bcell NWr.out).1 _ _ hg).trans (HC.out k hlt)
   obtain ⟨B2, hr2⟩ := HR.out k hlt
   obtain ⟨ua, un, uc, hu⟩ := OwnQ.slice hr2
   rw [hu] at p0 hr2
   have hb : w.heap.size < wr.heap.size := World.block_lt_of_cell? wr ⟨w.heap.size, 0, none⟩ q0
   have HA : Hid _ := iaddLns wr w.heap.size 0 (w.heap.size + 1) B2 (.slice va vn vc) (.slice ua un uc) (F k) (prAt ps k).2 q0 q1 HO.out (OwnQ.nw hr2 NWr.out) (H1.out k hlt) (by have a1 := HL.out (k + 1); rw [HS.out k hlt, List.length_append] at a1; omega) (by omega) (fun e => by have := (OwnQ.lt HO.out _ e).1; omega)
   have HB : Hid (w.heap.size < wr.heap.size) := hb
   have Q1 : Hid (wr.frozen? ⟨w.heap.size, 0, none⟩ = false) := q1
   have Q0 : Hid (wr.cell? ⟨w.heap.size, 0, none⟩ = some (.slice va vn vc)) := q0
   clear hr2 hu hb q1
   go_wp2_with fail
   refine Calls.mono HA.out ?_
   rintro e w2 ⟨rfl, v', w1, o1, x1, rfl⟩
   have hne : (Value.slice va vn vc).ownBlock ≠ some w.heap.size := fun e => by have := (OwnQ.lt HO.out _ e).1; omega
   have hne' : v'.ownBlock ≠ some w.heap.size := Ext.apart x1 HB.out hne
   have s0 : (w1.setCell ⟨w.heap.size, 0, none⟩ v').cell? ⟨w.heap.size, 0, none⟩ = some v' := World.cell?_setCell_same w1 ⟨w.heap.size, 0, none⟩ _ ((Ext.cell x1 HB.out hne 0).trans Q0.out)
   have s1 : (w1.setCell ⟨w.heap.size, 0, none⟩ v').frozen? ⟨w.heap.size, 0, none⟩ = false := by
    rw [World.frozen?_setCell]
    exact (World.frozen?_of_block (w := wr) (a := ⟨w.heap.size, 0, none⟩) (x1.1.block _ HB.out (fun e => hne e.symm))).trans Q1.out
   have N1 : Hid (Nw w (w1.setCell ⟨w.heap.size, 0, none⟩ v')) := Below.trans NWr.out ((x1.below (fun g e => Nat.le_of_succ_le (OwnQ.lt HO.out g e).1) (by have := HB.out; omega)).setCell (Nat.le_refl _) _)
   have O1 : Hid (OwnQ 25 (w1.setCell ⟨w.heap.size, 0, none⟩ v') (w.heap.size + 1) v' (vLn (F (k + 1)))) := by
    show OwnQ _ _ _ _ _
    rw [HS.out k hlt]
    exact OwnQ.far o1 _ _ _ hne'
   have S : Hid _ := And.intro s0 s1
   clear s0 s1 o1 x1 hne hne' p0 q0
   generalize w1.setCell ⟨w.heap.size, 0, none⟩ v' = w3 at *
   go_wp2
   go_roundw
   case rel => exact ⟨k + 1, v', by omega, by go_num, S.out.1, S.out.2, O1.out, N1.out⟩
   case measure => simp [intOf]; omega
  ·obtain rfl : k = n := by omega
   have d1 : decide ((k : Int) < (k : Int)) = false := by simp
   go_wp2
   go_ret
   exact ⟨_, rfl, by rw [← HT.out]; exact OwnQ.base HO.out (Nat.le_succ _), NWr.out⟩
end Go.Proofs.YtfdjjbgcaojcnaaGreat
