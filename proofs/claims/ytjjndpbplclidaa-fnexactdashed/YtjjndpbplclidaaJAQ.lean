/-
  Good pens, by the reference: GoodPen; each theorem names its conditions.
  Lines cut into dashes, by the program: Dashed, the main way; each theorem names its conditions.
  Lines cut into dashes, of both: Dashed; each theorem names its conditions.
  The statement of the law on Dashed that draws its order, whatever order comes up; each theorem names its conditions.
-/
import Derived.Test.YtjjndpbplclidaaJAP
import Derived.Test.YtjjndpbplclidaaJAJ
import Derived.Test.YtjjndpbplclidaaJAL
import Derived.Test.YtjjndpbplclidaaJAM
import Derived.Test.YtjjndpbplclidaaJAF
import Derived.Test.YtjjndpbplclidaaJAG
namespace Go.Proofs.Ytjjndpbplclidaa
open Go.ChangeShapes Go.WideShapes Go.ChangeAt Go.RowKit
set_option linter.unusedVariables false

def penB (p : PD) (l : List Int) : Bool := decide (0 ≤ p.w ∧ p.w ≤ 4194304) && (decide (1 ≤ p.j ∧ p.j ≤ 3) && (decide (1 ≤ p.c ∧ p.c ≤ 3) && dshB l p.f))
set_option maxRecDepth 100000 in
set_option maxHeartbeats 4000000 in
theorem sgoodPen (w : World) (p : PD) (a : Option Addr) (c : Nat) (l : List Int) (hl : l.length ≤ 1048576) (hr : Ints w a l) :
    Calls Try.prog 51 #[penV p (.slice a l.length c)] w fun e w' => e = .returned (.bool (penB p l)) ∧ Kp w w' := by
  obtain ⟨pw, pj, pc, pf⟩ := p
  unfold penV penB dshB
  simp only
  have k1 : ∀ o t, Kp w (w.alloc (.cells o t)) := fun o t => (Kp.refl w).alloc _ _
  have HR : Hid (∀ o t, Ints (w.alloc (.cells o t)) a l) := fun o t => hr.nw (k1 o t).nw
  have H1 : Hid _ := fun w => in_any w pw 0 4194304
  have H2 : Hid _ := fun w => in_any w pj 1 3
  have H3 : Hid _ := fun w => in_any w pc 1 3
  have H4 : Hid (∀ w, Calls Try.prog 24 #[.int .i64 pf, .int .i64 0, .int .i64 67108864] w fun e w' => e = .returned (.bool (dnB pf)) ∧ w' = w) := fun w => in_any w pf 0 67108864
  clear hr
  generalize decide (0 ≤ pw ∧ pw ≤ 4194304) = b1 at *
  generalize decide (1 ≤ pj ∧ pj ≤ 3) = b2 at *
  generalize decide (1 ≤ pc ∧ pc ≤ 3) = b3 at *
  generalize dnB pf = b4 at *
  cases b1 with
  | false =>
    go_enter Try.func51, Try.ntmps51
    go_wp2_with fail
    refine Calls.mono (H1.out _) ?_
    rintro e w9 ⟨rfl, rfl⟩
    go_wp2
    go_ret
    exact ⟨rfl, k1 _ _⟩
  | true =>
    rw [Bool.true_and]
    cases b2 with
    | false =>
      go_enter Try.func51, Try.ntmps51
      go_wp2_with fail
      refine Calls.mono (H1.out _) ?_
      rintro e w9 ⟨rfl, rfl⟩
      go_wp2_with fail
      refine Calls.mono (H2.out _) ?_
      rintro e w9 ⟨rfl, rfl⟩
      go_wp2
      go_ret
      exact ⟨rfl, k1 _ _⟩
    | true =>
      rw [Bool.true_and]
      cases b3 with
      | false =>
        go_enter Try.func51, Try.ntmps51
        go_wp2_with fail
        refine Calls.mono (H1.out _) ?_
        rintro e w9 ⟨rfl, rfl⟩
        go_wp2_with fail
        refine Calls.mono (H2.out _) ?_
        rintro e w9 ⟨rfl, rfl⟩
        go_wp2_with fail
        refine Calls.mono (H3.out _) ?_
        rintro e w9 ⟨rfl, rfl⟩
        go_wp2
        go_ret
        exact ⟨rfl, k1 _ _⟩
      | true =>
        rw [Bool.true_and]
        by_cases h8 : l.length ≤ 8
        · have hd : decide ((8 : Int) < l.length) = false := decide_eq_false (by omega)
          rw [decide_eq_true h8, Bool.true_and]
          cases b4 with
          | false =>
            go_enter Try.func51, Try.ntmps51
            go_wp2_with fail
            refine Calls.mono (H1.out _) ?_
            rintro e w9 ⟨rfl, rfl⟩
            go_wp2_with fail
            refine Calls.mono (H2.out _) ?_
            rintro e w9 ⟨rfl, rfl⟩
            go_wp2_with fail
            refine Calls.mono (H3.out _) ?_
            rintro e w9 ⟨rfl, rfl⟩
            go_wp2_with fail
            refine Calls.mono (H4.out _) ?_
            rintro e w9 ⟨rfl, rfl⟩
            go_wp2
            go_ret
            exact ⟨rfl, k1 _ _⟩
          | true =>
            rw [Bool.true_and]
            obtain ⟨V, hV⟩ : ∃ V, l.all dnB = V := ⟨_, rfl⟩
            rw [hV]
            have HX : Hid (l.all dnB = V) := hV
            clear hV
            go_enter Try.func51, Try.ntmps51
            go_wp2_with fail
            refine Calls.mono (H1.out _) ?_
            rintro e w9 ⟨rfl, rfl⟩
            go_wp2_with fail
            refine Calls.mono (H2.out _) ?_
            rintro e w9 ⟨rfl, rfl⟩
            go_wp2_with fail
            refine Calls.mono (H3.out _) ?_
            rintro e w9 ⟨rfl, rfl⟩
            go_wp2_with fail
            refine Calls.mono (H4.out _) ?_
            rintro e w9 ⟨rfl, rfl⟩
            go_wp2
            go_loop [36] (fun i => ∃ k : Nat, k ≤ l.length ∧ i = .int .i64 k ∧ ∀ j, j < k → dnB (intAt l j) = true) (fun i => l.length - (intOf i).toNat)
            case atStart => exact ⟨0, Nat.zero_le _, rfl, fun j hj => absurd hj (by omega)⟩
            case round =>
              obtain ⟨k, hk, rfl, ha⟩ := hrel
              have HA : Hid _ := ha
              clear ha
              by_cases hlt : k < l.length
              · obtain ⟨b, off, rfl, q⟩ := Ints.at (HR.out #[.int .i64 pw, .int .i64 pj, .int .i64 pc, .slice a l.length c, .int .i64 pf] 85) hlt
                obtain ⟨x, hx⟩ : ∃ x, intAt l k = x := ⟨_, rfl⟩
                have HXX : Hid (intAt l k = x) := hx
                rw [hx] at q
                clear hx
                have HC : Hid (∀ w, Calls Try.prog 24 #[.int .i64 x, .int .i64 0, .int .i64 67108864] w fun e w' => e = .returned (.bool (dnB x)) ∧ w' = w) := fun w => in_any w x 0 67108864
                cases hdn : dnB x with
                | false =>
                  have HY : Hid (V = false) := HX.out.symm.trans (all_false dnB 0 l k hlt (show dnB (intAt l k) = false by rw [HXX.out]; exact hdn))
                  rw [hdn] at HC
                  clear hdn
                  go_wp2_with fail
                  refine (HC.out _).mono ?_
                  rintro e w2 ⟨rfl, rfl⟩
                  go_wp2
                  go_ret
                  exact ⟨ret_bool HY.out.symm, k1 _ _⟩
                | true =>
                  have HY : Hid (dnB (intAt l k) = true) := by show _ = _; rw [HXX.out]; exact hdn
                  rw [hdn] at HC
                  clear hdn
                  go_wp2_with fail
                  refine (HC.out _).mono ?_
                  rintro e w2 ⟨rfl, rfl⟩
                  go_wp2
                  go_round
                  case rel =>
                    refine ⟨k + 1, by omega, by go_num, fun j hj => ?_⟩
                    rcases Nat.lt_succ_iff_lt_or_eq.1 hj with h | h
                    · exact HA.out j h
                    · rw [h]; exact HY.out
                  case measure => simp [intOf]; omega
              · have HY : Hid (V = true) := HX.out.symm.trans (all_true dnB 0 l (fun j hj => HA.out j (by omega)))
                clear HA
                go_wp2
                go_ret
                exact ⟨ret_bool HY.out.symm, k1 _ _⟩
        · have hd : decide ((8 : Int) < l.length) = true := decide_eq_true (by omega)
          rw [decide_eq_false h8, Bool.false_and]
          go_enter Try.func51, Try.ntmps51
          go_wp2_with fail
          refine Calls.mono (H1.out _) ?_
          rintro e w9 ⟨rfl, rfl⟩
          go_wp2_with fail
          refine Calls.mono (H2.out _) ?_
          rintro e w9 ⟨rfl, rfl⟩
          go_wp2_with fail
          refine Calls.mono (H3.out _) ?_
          rintro e w9 ⟨rfl, rfl⟩
          go_wp2
          go_ret
          exact ⟨rfl, k1 _ _⟩
end Go.Proofs.Ytjjndpbplclidaa
namespace Go.Proofs.Ytjjndpbplclidaa
open Go.ChangeShapes Go.WideShapes Go.ChangeAt Go.RowKit
set_option linter.unusedVariables false

set_option maxRecDepth 100000 in
set_option maxHeartbeats 8000000 in
theorem idashC (w : World) (pa : Option Addr) (pc : Nat) (p : List Pnt) (cl : Bool) (na : Option Addr) (nc : Nat) (ns : List Int) (f : Int) (hp : p.length ≤ 1048576) (hn : ns.length ≤ 1048576) (hP : Pts w pa p) (hI : Ints w na ns) (hcap : p.length ≤ pc) (hin : dsIn ns f p = true) (hs : sumN ns ns.length ≠ 0) : Calls Try.prog 9 #[.agg #[.slice pa p.length pc, .bool cl], .slice na ns.length nc, .int .i64 f] w fun e w' => ∃ v, e = .returned (.tuple #[v, .bool (dsV ns f p cl).2]) ∧ LsOk w' w.heap.size v (dsV ns f p cl).1 ∧ Nw w w' := by
  have HV : Hid (dsV ns f p cl = if 2400 < (dash1 ns f p cl).begun ∨ 600 < manyL (dash1 ns f p cl).o then ([], false) else ((dash1 ns f p cl).o, true)) := by
    show _ = _
    unfold dsV
    rw [if_pos hin, if_neg hs]
  obtain ⟨W1, hW1⟩ : ∃ W1, w.alloc (.cells #[.slice pa p.length pc, .bool cl] 32) = W1 := ⟨_, rfl⟩
  have N1 : Hid (Nw w W1) := by show Nw _ _; rw [← hW1]; exact (Below.refl _ _).alloc (Nat.le_refl _) _
  have q0 : W1.cell? ⟨w.heap.size, 0, none⟩ = some (.slice pa p.length pc) := by rw [← hW1, World.cell?_alloc_at _ _ _ _ rfl]; rfl
  have q1 : W1.cell? ⟨w.heap.size, 1, none⟩ = some (.bool cl) := by rw [← hW1, World.cell?_alloc_at _ _ _ _ rfl]; rfl
  have HQ : Hid (W1.cell? ⟨w.heap.size, 0, none⟩ = some (.slice pa p.length pc) ∧ W1.cell? ⟨w.heap.size, 1, none⟩ = some (.bool cl)) := ⟨q0, q1⟩
  have LB : Hid (w.heap.size < W1.heap.size) := World.block_lt_of_cell? W1 ⟨w.heap.size, 0, none⟩ q0
  have HW1 : Hid (_ = W1) := hW1
  unfold dsIn at hin
  simp only [Bool.and_eq_true] at hin
  obtain ⟨i1, i2, i3⟩ := hin
  have i1' := of_decide_eq_true i1
  obtain ⟨z1, z2, z3⟩ := dsh_NB i3
  have hnn := sum_some hs
  have HNB : Hid (NB ns) := ⟨hnn, z3⟩
  have hsp : 0 < sumN ns ns.length := by have := (sumN_bd z3 ns.length (Nat.le_refl _)).1; omega
  have HNE : Hid (nearsB p = true) := i2
  have H1 : Hid (∀ w, Calls Try.prog 29 #[.int .i64 (p.length : Int), .int .i64 1, .int .i64 600] w fun e w' => e = .returned (.bool (decide ((1 : Int) ≤ (p.length : Int) ∧ (p.length : Int) ≤ 600))) ∧ w' = w) := fun w => iin_any w p.length 1 600
  have e1 : decide ((1 : Int) ≤ (p.length : Int) ∧ (p.length : Int) ≤ 600) = true := by simp; omega
  rw [e1] at H1
  have HN : Hid _ := inear W1 pa pc p hp (Pts.nw hP N1.out)
  rw [i2] at HN
  have HD : Hid (∀ w2, Nw W1 w2 → _) := fun w2 (k : Nw W1 w2) => igoodDash w2 na nc ns f hn (Ints.nw hI (Nw.trans N1.out k))
  rw [i3] at HD
  have HS : Hid (∀ w2, Nw W1 w2 → _) := fun w2 (k : Nw W1 w2) => isum w2 na nc ns z1 z3 (Ints.nw hI (Nw.trans N1.out k))
  obtain ⟨g, off, hpa, hlie⟩ := Pts.lie hP (by omega)
  subst hpa
  have HL : Hid (LieP w g off p) := hlie
  have HI : Hid (Ints w na ns) := hI
  obtain ⟨nb, no, hna, hnb, hx0⟩ : ∃ nb no, na = some ⟨nb, no, none⟩ ∧ nb < w.heap.size ∧ w.cell? ⟨nb, no, none⟩ = some (.int .i64 (intAt ns 0)) := by
    rcases hI with e | ⟨b, o, rfl, hb, hc⟩
    · rw [e] at hnn; simp at hnn
    · exact ⟨b, o, rfl, hb, hc 0 hnn⟩
  subst hna
  have HX0 : Hid (nb < w.heap.size ∧ w.cell? ⟨nb, no, none⟩ = some (.int .i64 (intAt ns 0))) := ⟨hnb, hx0⟩
  have hsz : (sumN ns ns.length == 0) = false := by simp [hs]
  have HSK : Hid (∀ (V W6 : World), Nw w V → DhS V.heap.size V W6 [] (some ⟨nb, no, none⟩) nc ns ⟨0, intAt ns 0, 0, [], []⟩ → _) := fun V W6 hv h6 => iskip V W6 V.heap.size [] (some ⟨nb, no, none⟩) nc ns f (Nat.le_refl _) z1 ⟨hnn, z3⟩ hsp z2.1 z2.2 (Ints.nw hI hv) h6
  have HDN : Hid (∀ V : World, DhS V.heap.size V (V.alloc (.cells #[.slice (some ⟨nb, no, none⟩) ns.length nc, .int .i64 0, .int .i64 (intAt ns 0), .int .i64 0, .slice none 0 0, .slice none 0 0] 63)) [] (some ⟨nb, no, none⟩) nc ns ⟨0, intAt ns 0, 0, [], []⟩) := fun V => DhS.new V _ nc ns _ _
  have HZ1 : Hid (ns.length ≤ 8) := z1
  have HSD : Hid (DB 0 (startD ns (f % rndN ns))) := by
    have hr : 0 < rndN ns := by unfold rndN; split <;> omega
    exact start_DB ⟨hnn, z3⟩ z1 (Int.emod_nonneg _ (by omega)) (Int.emod_lt_of_pos _ hr)
  clear e1 hW1 hP hI i1 i2 i3 z2 z3 hlie q1 hx0 hs hsp
  generalize intAt ns 0 = x0 at *
  generalize sumN ns ns.length = sn at *
  generalize hnp : p.length = np at *
  have HNP : Hid (p.length = np) := hnp
  clear hnp
  generalize hnl : ns.length = nn at *
  have HNN : Hid (ns.length = nn) := hnl
  clear hnl
  go_enter Try.func9, Try.ntmps9
  go_wp2_with fail
  rw [HW1.out]
  refine Calls.mono (H1.out _) ?_
  rintro e w2 ⟨rfl, rfl⟩
  go_wp2_with fail
  refine Calls.mono HN.out ?_
  rintro e w3 ⟨rfl, k3⟩
  have N3 : Hid (Nw w w3) := Nw.trans N1.out k3.nw
  have M3 : Hid (Nw w2 w3) := k3.nw
  have HD3 : Hid _ := HD.out w3 k3.nw
  have HS3 : Hid _ := HS.out w3 k3.nw
  clear k3
  go_wp2_with fail
  refine Calls.mono HD3.out ?_
  rintro e w4 ⟨rfl, rfl⟩
  go_wp2_with fail
  refine Calls.mono HS3.out ?_
  rintro e w5 ⟨rfl, rfl⟩
  clear q0
  have x5 := ((bcell N3.out).1 _ _ HX0.out.1).trans HX0.out.2
  have hbn := hnb
  go_wp2_with fail
  refine Calls.mono (HSK.out w5 _ N3.out (HDN.out w5)) ?_
  rintro e w7 ⟨rfl, h7⟩
  obtain ⟨bd, hbd⟩ : ∃ bd, w5.heap.size = bd := ⟨_, rfl⟩
  rw [hbd] at h7 ⊢
  have HBD : Hid (w5.heap.size = bd) := hbd
  have H7 : Hid (DhS bd w5 w7 [] (some ⟨nb, no, none⟩) nc ns (startD ns (f % rndN ns))) := h7
  have BL : Hid (w.heap.size < w5.heap.size) := Nat.lt_of_lt_of_le LB.out (Below.size M3.out)
  have CBL : Hid (∀ w', Nw w5 w' → w'.cell? ⟨w.heap.size, 0, none⟩ = some (.slice (some ⟨g, off, none⟩) np pc) ∧ w'.cell? ⟨w.heap.size, 1, none⟩ = some (.bool cl)) := fun w' k => ⟨((bcell k).1 _ _ BL.out).trans (((bcell M3.out).1 _ _ LB.out).trans HQ.out.1), ((bcell k).1 _ _ BL.out).trans (((bcell M3.out).1 _ _ LB.out).trans HQ.out.2)⟩
  have CPT : Hid (∀ w', Nw w5 w' → ∀ j, j < np → w'.cell? ⟨g, off + j * 2, none⟩ = some (.int .i64 (ptAt p j).1) ∧ w'.cell? ⟨g, off + j * 2 + 1, none⟩ = some (.int .i64 (ptAt p j).2)) := fun w' k j hj => (LieP.nw HL.out (Nw.trans N3.out k)).2 j (by rw [HNP.out]; exact hj)
  obtain ⟨_, _, _, _, _, n7, _⟩ := h7
  obtain ⟨l0, _⟩ := CBL.out w7 n7
  obtain ⟨p0, p1⟩ := CPT.out w7 n7 0 (by omega)
  simp only [Nat.zero_mul, Nat.add_zero] at p0 p1
  obtain ⟨px, hpx⟩ : ∃ px, (ptAt p 0).1 = px := ⟨_, rfl⟩
  obtain ⟨py, hpy⟩ : ∃ py, (ptAt p 0).2 = py := ⟨_, rfl⟩
  have HP0 : Hid (ptAt p 0 = (px, py)) := by show _ = _; rw [← hpx, ← hpy]
  rw [hpx] at p0
  rw [hpy] at p1
  obtain ⟨W8, hW8⟩ : ∃ W8, w7.alloc (.cells #[.int .i64 px, .int .i64 py] 54) = W8 := ⟨_, rfl⟩
  have h8 := DhS.box H7.out px py 54
  rw [hW8] at h8
  obtain ⟨bh, hbh⟩ : ∃ bh, w7.heap.size = bh := ⟨_, rfl⟩
  rw [hbh] at h8
  have HBH : Hid (w7.heap.size = bh) := hbh
  have H8 : Hid (DhS bd w5 W8 [(bh, px, py)] (some ⟨nb, no, none⟩) nc ns (startD ns (f % rndN ns))) := h8
  have HW8 : Hid (_ = W8) := hW8
  have HGE : Hid (w5.heap.size ≤ bh) := by show _ ≤ _; rw [← hbh]; exact Below.size n7
  have h00 : 0 < np := by omega
  clear n7 h8 hW8 hbh hpx hpy hbd x5
  go_wp2_with fail
  rw [HW8.out, HBH.out]
  refine Calls.mono (ireach w5 W8 bd _ (some ⟨nb, no, none⟩) nc ns _ px py (by rw [HBD.out]; exact Nat.le_refl _) (by show ([] : List Pnt).length ≤ _; simp) H8.out) ?_
  rintro e w9 ⟨rfl, h9⟩
  have H9 : Hid (DhS bd w5 w9 [(bh, px, py)] (some ⟨nb, no, none⟩) nc ns (reachD (startD ns (f % rndN ns)) (px, py))) := h9
  obtain ⟨_, _, _, _, _, n9, _⟩ := h9
  obtain ⟨l9, _⟩ := CBL.out w9 n9
  clear n9 l0 p0 p1
  have HDB : Hid (DB (0 + 1) (reachD (startD ns (f % rndN ns)) (px, py))) := DB.reach HSD.out (px, py)
  generalize hd1 : reachD (startD ns (f % rndN ns)) (px, py) = d1 at *
  have HD1 : Hid (reachD (startD ns (f % rndN ns)) (px, py) = d1) := hd1
  clear hd1
  go_upto_region 9 with fail
  go_cut [54, 55, 56] (fun s n i wx => ∃ A cc, s = .slice A (np - 1) cc ∧ (1 < np → A = some ⟨g, off + 2, none⟩) ∧ n = .int .i64 ((np - 1 : Nat) : Int) ∧ i = .int .i64 0 ∧ w9 = wx)
  case first =>
    by_cases hpc : pc = 1
    · go_wp2
      all_goals go_meet
      all_goals exact ⟨_, _, rfl, fun h => absurd h (by omega), by simp, rfl, rfl⟩
    · go_wp2
      all_goals go_meet
      all_goals exact ⟨_, _, rfl, fun h => by simp, by simp, rfl, rfl⟩
  case rest =>
    obtain ⟨A, cc, rfl, hA, rfl, rfl, hwc⟩ := hcut
    subst hwc
    have HA : Hid (1 < np → A = some ⟨g, off + 2, none⟩) := hA
    clear hA l9
    go_wp2
    go_loopw [56] (fun i wr => ∃ j : Nat, j ≤ np - 1 ∧ i = .int .i64 (j : Int) ∧ DhS bd w5 wr [(bh, (ptAt p j).1, (ptAt p j).2)] (some ⟨nb, no, none⟩) nc ns (segsD ns d1 p j) ∧ DB (j + 1) (segsD ns d1 p j)) (fun i _ => np - (intOf i).toNat)
    case atStart => exact ⟨0, by omega, rfl, by rw [HP0.out]; exact H9.out, HDB.out⟩
    case round =>
      obtain ⟨j, hj, rfl, hdj, hbj⟩ := hrel
      have HDJ : Hid (DhS bd w5 wr [(bh, (ptAt p j).1, (ptAt p j).2)] (some ⟨nb, no, none⟩) nc ns (segsD ns d1 p j)) := hdj
      have HBJ : Hid (DB (j + 1) (segsD ns d1 p j)) := hbj
      obtain ⟨_, _, _, _, _, nj, _⟩ := hdj
      have NJ : Hid (Nw w5 wr) := nj
      clear nj hbj
      by_cases hlt : j < np - 1
      · have hAe := HA.out (by omega)
        subst hAe
        obtain ⟨r0, r1⟩ := CPT.out wr NJ.out (j + 1) (by omega)
        rw [show off + (j + 1) * 2 = off + 2 + j * 2 by omega] at r0 r1
        have HSG : Hid (segsD ns d1 p (j + 1) = alongD ns (segsD ns d1 p j) (ptAt p j) (ptAt p (j + 1))) := rfl
        have HNJ : Hid (nearB (ptAt p j) = true ∧ nearB (ptAt p (j + 1)) = true) := ⟨nearsB_at HNE.out j (by rw [HNP.out]; omega), nearsB_at HNE.out (j + 1) (by rw [HNP.out]; omega)⟩
        generalize hq1 : ptAt p (j + 1) = qn at *
        have HQ1 : Hid (ptAt p (j + 1) = qn) := hq1
        generalize ptAt p j = qh at *
        obtain ⟨hx, hy⟩ := qh
        obtain ⟨nx, ny⟩ := qn
        simp only at HDJ r0 r1
        clear hq1
        obtain ⟨Wb, hWb⟩ : ∃ Wb, wr.alloc (.cells #[.int .i64 nx, .int .i64 ny] 54) = Wb := ⟨_, rfl⟩
        have hb := DhS.box HDJ.out nx ny 54
        rw [hWb] at hb
        obtain ⟨bn, hbn2⟩ : ∃ bn, wr.heap.size = bn := ⟨_, rfl⟩
        rw [hbn2] at hb
        have HB : Hid (DhS bd w5 Wb [(bn, nx, ny), (bh, hx, hy)] (some ⟨nb, no, none⟩) nc ns (segsD ns d1 p j)) := hb
        obtain ⟨s0, s1⟩ := DhS.at HB.out (b := bh) (x := hx) (y := hy) (by simp)
        have HWb : Hid (_ = Wb) := hWb
        have HBN : Hid (wr.heap.size = bn) := hbn2
        have t0 : (wr.alloc (.cells #[.int .i64 nx, .int .i64 ny] 54)).cell? ⟨bh, 0, none⟩ = some (.int .i64 hx) := by rw [hWb]; exact s0
        have t1 : (wr.alloc (.cells #[.int .i64 nx, .int .i64 ny] 54)).cell? ⟨bh, 1, none⟩ = some (.int .i64 hy) := by rw [hWb]; exact s1
        clear hb hWb hbn2 s0 s1
        have hlt' : j < np - 1 := hlt
        go_wp2_with fail
        rw [HWb.out, HBN.out]
        refine Calls.mono (ialong w5 Wb bd _ (some ⟨nb, no, none⟩) nc ns (segsD ns d1 p j) hx hy nx ny (j + 1) (by rw [HBD.out]; exact Nat.le_refl _) HNJ.out.1 HNJ.out.2 (Ints.nw HI.out N3.out) HNB.out (by omega) (by omega) HBJ.out HB.out) ?_
        rintro e w10 ⟨rfl, h10, b10⟩
        have H10 : Hid _ := h10
        have B10 : Hid _ := b10
        obtain ⟨s0, s1⟩ := DhS.at H10.out (b := bn) (x := nx) (y := ny) (by simp)
        obtain ⟨s2, s3⟩ := DhS.at H10.out (b := bh) (x := hx) (y := hy) (by simp)
        have sf : ∀ o, w10.frozen? ⟨bh, o, none⟩ = false := by
          obtain ⟨_, _, _, _, _, _, kb⟩ := h10
          exact (kb (bh, hx, hy) (by simp)).2.2.1
        have H11 : Hid _ := DhS.move (DhS.sub (K' := [(bh, hx, hy)]) H10.out (fun k hk => by simp at hk; simp [hk])) HGE.out nx ny
        clear h10 b10 t0 t1 r0 r1
        go_wp2
        go_roundw
        case rel => exact ⟨j + 1, by omega, by go_num, by rw [HQ1.out, HSG.out]; exact H11.out, by rw [HSG.out]; exact B10.out⟩
        case measure => simp [intOf]; omega
      · have hjn : j = np - 1 := by omega
        obtain ⟨l0, l1⟩ := CBL.out wr NJ.out
        obtain ⟨D0, hD0⟩ : ∃ D0, (if cl then alongD ns (segsD ns d1 p j) (ptAt p j) (px, py) else segsD ns d1 p j) = D0 := ⟨_, rfl⟩
        have HDA : Hid (dash1 ns f p cl = layD D0) := by
          show _ = _
          rw [← hD0]
          unfold dash1 dash0 lastP
          rw [HNP.out, HP0.out, HD1.out, hjn]
        have HD0 : Hid (_ = D0) := hD0
        clear hD0
        have HNJ : Hid (nearB (ptAt p j) = true ∧ nearB (px, py) = true) := ⟨nearsB_at HNE.out j (by rw [HNP.out]; omega), by rw [← HP0.out]; exact nearsB_at HNE.out 0 (by rw [HNP.out]; omega)⟩
        have hnl : ¬ j < np - 1 := hlt
        generalize ptAt p j = qh at *
        obtain ⟨hx, hy⟩ := qh
        simp only at HDJ
        cases cl with
        | false =>
          have HX : Hid (DhS bd w5 wr [] (some ⟨nb, no, none⟩) nc ns D0 ∧ DB (j + 2) D0) := by
            have e : segsD ns d1 p j = D0 := HD0.out
            rw [e] at HDJ HBJ
            exact ⟨DhS.sub HDJ.out (fun k hk => absurd hk (by simp)), HBJ.out.more⟩
          have H12 : Hid (DhS bd w5 wr [] (some ⟨nb, no, none⟩) nc ns D0) := HX.out.1
          have B12 : Hid (DB (j + 2) D0) := HX.out.2
          go_wp2_with fail
          refine Calls.mono (ilay w5 wr bd [] (some ⟨nb, no, none⟩) nc ns D0 (by rw [HBD.out]; exact Nat.le_refl _) (by have := B12.out.ho; have := B12.out.hb; omega) H12.out) ?_
          rintro e w13 ⟨rfl, v, it, u, dh, ho, nw13, _⟩
          have HVV : Hid (dsV ns f p false = if 2400 < D0.begun ∨ 600 < manyL (layD D0).o then ([], false) else ((layD D0).o, true)) := by
            show _ = _
            rw [HV.out, HDA.out]
            rfl
          obtain ⟨la, lc, hv, hlines⟩ := OwnLn.lines dh.d.ln
          rw [ho] at hv hlines
          subst hv
          have c3 := dh.c3
          have c5 := dh.c5
          have hbg : (layD D0).begun = D0.begun := rfl
          rw [hbg] at c3
          have hml : manyL (layD D0).o ≤ 10000 := by
            have e := endL_many D0.o D0.p false
            have := B12.out.hm
            have := B12.out.hb
            have := B12.out.hp
            show manyL (endL D0.o D0.p false) ≤ _
            omega
          have hll : (layD D0).o.length ≤ 10000 := by
            have e := endL_len D0.o D0.p false
            have := B12.out.ho
            have := B12.out.hb
            show (endL D0.o D0.p false).length ≤ _
            omega
          have HMA : Hid _ := imany w13 la lc (layD D0).o (by omega) (by omega) hlines
          have O13 : Hid (LsOk w13 w.heap.size (.slice la (layD D0).o.length lc) (layD D0).o) := LsOk.of (OwnLn.base dh.d.ln (by have := Below.size N3.out; have := HBD.out; omega)) ho
          have N13 : Hid (Nw w w13) := Nw.trans N3.out nw13
          have C13 : Hid (bd < w13.heap.size) := dh.lt
          clear dh ho nw13 hlines
          generalize hbb : D0.begun = bb at *
          generalize (layD D0).o.length = ol at *
          by_cases h24 : 2400 < bb
          · have hd : decide ((2400 : Int) < (bb : Int)) = true := by simp; omega
            have HE : Hid (dsV ns f p false = ([], false)) := by show _ = _; rw [HVV.out, if_pos (Or.inl h24)]
            go_wp2
            go_ret2
            rw [HE.out]
            exact ⟨_, rfl, LsOk.of (OwnLn.nil _ _) rfl, N13.out⟩
          · have hd : decide ((2400 : Int) < (bb : Int)) = false := by simp; omega
            generalize hmm : manyL (layD D0).o = mm at *
            have HMM : Hid (manyL (layD D0).o = mm) := hmm
            clear hmm
            by_cases h6 : 600 < mm
            · have hd2 : decide ((600 : Int) < (mm : Int)) = true := by simp; omega
              have HE : Hid (dsV ns f p false = ([], false)) := by show _ = _; rw [HVV.out, if_pos (Or.inr h6)]
              go_wp2_with fail
              refine Calls.mono HMA.out ?_
              rintro e w14 ⟨rfl, k14⟩
              have N14 : Hid (Nw w w14) := Nw.trans N13.out k14.nw
              clear k14
              go_wp2
              go_ret2
              rw [HE.out]
              exact ⟨_, rfl, LsOk.of (OwnLn.nil _ _) rfl, N14.out⟩
            · have hd2 : decide ((600 : Int) < (mm : Int)) = false := by simp; omega
              have HE : Hid (dsV ns f p false = ((layD D0).o, true)) := by show _ = _; rw [HVV.out, if_neg (by omega)]
              go_wp2_with fail
              refine Calls.mono HMA.out ?_
              rintro e w14 ⟨rfl, k14⟩
              have N14 : Hid (Nw w w14) := Nw.trans N13.out k14.nw
              have O14 : Hid (LsOk w14 w.heap.size (.slice la ol lc) (layD D0).o) := LsOk.nw O13.out k14.nw
              have c5' := ((Kp.cells k14).1 _ _ C13.out).trans c5
              clear k14
              go_wp2
              go_ret2
              rw [HE.out]
              exact ⟨_, rfl, O14.out, N14.out⟩
        | true =>
          have e : alongD ns (segsD ns d1 p j) (hx, hy) (px, py) = D0 := HD0.out
          have nd : Nw wr wr.drew := (Below.refl _ _).drew
          have h0d := DhS.nw HDJ.out nd
          have HC : Hid (Calls Try.prog 36 #[.pointer (some ⟨bd, 0, none⟩), .agg #[.int .i64 hx, .int .i64 hy], .agg #[.int .i64 px, .int .i64 py]] wr.drew fun e w' => e = .returned (.tuple #[]) ∧ (DhS bd w5 w' [] (some ⟨nb, no, none⟩) nc ns D0 ∧ DB (j + 2) D0)) := by
            refine Calls.mono (ialong w5 wr.drew bd _ (some ⟨nb, no, none⟩) nc ns (segsD ns d1 p j) hx hy px py (j + 1) (by rw [HBD.out]; exact Nat.le_refl _) HNJ.out.1 HNJ.out.2 (Ints.nw HI.out N3.out) HNB.out (by omega) (by omega) HBJ.out h0d) ?_
            rintro e2 w' ⟨rfl, h1, h2⟩
            rw [e] at h1 h2
            exact ⟨rfl, DhS.sub h1 (fun k hk => absurd hk (by simp)), h2⟩
          obtain ⟨c0, _⟩ := CBL.out wr.drew (Nw.trans NJ.out nd)
          obtain ⟨a0, a1⟩ := DhS.at h0d (b := bh) (x := hx) (y := hy) (by simp)
          obtain ⟨p0, p1⟩ := CPT.out wr.drew (Nw.trans NJ.out nd) 0 (by omega)
          rw [HP0.out] at p0 p1
          simp only [Nat.zero_mul, Nat.add_zero] at p0 p1
          go_wp2
          refine reg_change (ops' := opsOf 16 Try.f9) (by kernel_rfl) ?_
          refine DS16.run ⟨w.heap.size, bh, bd, g, off, np, pc, hx, hy, px, py, fun w' => DhS bd w5 w' [] (some ⟨nb, no, none⟩) nc ns D0 ∧ DB (j + 2) D0, wr.drew, _⟩ ⟨c0, a0, a1, p0, p1, h00, HC.out, rfl, rfl, rfl, rfl⟩ wr rfl ?_
          rintro γ w12 h12
          have H12 : Hid (DhS bd w5 w12 [] (some ⟨nb, no, none⟩) nc ns D0) := h12.1
          have B12 : Hid (DB (j + 2) D0) := h12.2
          clear h12 c0 a0 a1 p0 p1 h0d nd
          simp only [Act.put, List.setIfInBounds_toArray, List.set_cons_zero, List.set_cons_succ]
          generalize γ 0 = z0 at *
          go_wp2_with fail
          refine Calls.mono (ilay w5 w12 bd [] (some ⟨nb, no, none⟩) nc ns D0 (by rw [HBD.out]; exact Nat.le_refl _) (by have := B12.out.ho; have := B12.out.hb; omega) H12.out) ?_
          rintro e w13 ⟨rfl, v, it, u, dh, ho, nw13, _⟩
          have HVV : Hid (dsV ns f p true = if 2400 < D0.begun ∨ 600 < manyL (layD D0).o then ([], false) else ((layD D0).o, true)) := by
            show _ = _
            rw [HV.out, HDA.out]
            rfl
          obtain ⟨la, lc, hv, hlines⟩ := OwnLn.lines dh.d.ln
          rw [ho] at hv hlines
          subst hv
          have c3 := dh.c3
          have c5 := dh.c5
          have hbg : (layD D0).begun = D0.begun := rfl
          rw [hbg] at c3
          have hml : manyL (layD D0).o ≤ 10000 := by
            have e := endL_many D0.o D0.p false
            have := B12.out.hm
            have := B12.out.hb
            have := B12.out.hp
            show manyL (endL D0.o D0.p false) ≤ _
            omega
          have hll : (layD D0).o.length ≤ 10000 := by
            have e := endL_len D0.o D0.p false
            have := B12.out.ho
            have := B12.out.hb
            show (endL D0.o D0.p false).length ≤ _
            omega
          have HMA : Hid _ := imany w13 la lc (layD D0).o (by omega) (by omega) hlines
          have O13 : Hid (LsOk w13 w.heap.size (.slice la (layD D0).o.length lc) (layD D0).o) := LsOk.of (OwnLn.base dh.d.ln (by have := Below.size N3.out; have := HBD.out; omega)) ho
          have N13 : Hid (Nw w w13) := Nw.trans N3.out nw13
          have C13 : Hid (bd < w13.heap.size) := dh.lt
          clear dh ho nw13 hlines
          generalize hbb : D0.begun = bb at *
          generalize (layD D0).o.length = ol at *
          by_cases h24 : 2400 < bb
          · have hd : decide ((2400 : Int) < (bb : Int)) = true := by simp; omega
            have HE : Hid (dsV ns f p true = ([], false)) := by show _ = _; rw [HVV.out, if_pos (Or.inl h24)]
            go_wp2
            go_ret2
            rw [HE.out]
            exact ⟨_, rfl, LsOk.of (OwnLn.nil _ _) rfl, N13.out⟩
          · have hd : decide ((2400 : Int) < (bb : Int)) = false := by simp; omega
            generalize hmm : manyL (layD D0).o = mm at *
            have HMM : Hid (manyL (layD D0).o = mm) := hmm
            clear hmm
            by_cases h6 : 600 < mm
            · have hd2 : decide ((600 : Int) < (mm : Int)) = true := by simp; omega
              have HE : Hid (dsV ns f p true = ([], false)) := by show _ = _; rw [HVV.out, if_pos (Or.inr h6)]
              go_wp2_with fail
              refine Calls.mono HMA.out ?_
              rintro e w14 ⟨rfl, k14⟩
              have N14 : Hid (Nw w w14) := Nw.trans N13.out k14.nw
              clear k14
              go_wp2
              go_ret2
              rw [HE.out]
              exact ⟨_, rfl, LsOk.of (OwnLn.nil _ _) rfl, N14.out⟩
            · have hd2 : decide ((600 : Int) < (mm : Int)) = false := by simp; omega
              have HE : Hid (dsV ns f p true = ((layD D0).o, true)) := by show _ = _; rw [HVV.out, if_neg (by omega)]
              go_wp2_with fail
              refine Calls.mono HMA.out ?_
              rintro e w14 ⟨rfl, k14⟩
              have N14 : Hid (Nw w w14) := Nw.trans N13.out k14.nw
              have O14 : Hid (LsOk w14 w.heap.size (.slice la ol lc) (layD D0).o) := LsOk.nw O13.out k14.nw
              have c5' := ((Kp.cells k14).1 _ _ C13.out).trans c5
              clear k14
              go_wp2
              go_ret2
              rw [HE.out]
              exact ⟨_, rfl, O14.out, N14.out⟩
end Go.Proofs.Ytjjndpbplclidaa
namespace Go.Proofs.Ytjjndpbplclidaa
open Go.ChangeShapes Go.WideShapes Go.ChangeAt Go.RowKit
set_option linter.unusedVariables false

theorem sl10dash (w : World) (a : Option Addr) (c : Nat) (l : List Int) (f : Int) (hl : l.length ≤ 1048576) (hr : Ints w a l) :
    Calls Try.prog 25 #[.slice a l.length c, .int .i64 f] w fun e w' => e = .returned (.bool (dshB l f)) ∧ Kp w w' := by
  have H : Hid _ := sgoodPen w ⟨0, 1, 1, f⟩ a c l hl hr
  have e : penB ⟨0, 1, 1, f⟩ l = dshB l f := by unfold penB; simp
  rw [e] at H
  unfold penV at H
  clear hr e
  generalize l.length = n at *
  generalize dshB l f = V at *
  go_enter Try.func25, Try.ntmps25
  go_wp2_with fail
  refine Calls.mono H.out ?_
  rintro e w1 ⟨rfl, k1⟩
  go_wp2
  go_ret
  exact ⟨rfl, k1⟩
theorem nears_all {p : List Pnt} (h : ∀ j, j < p.length → nearB (ptAt p j) = true) : nearsB p = true := by
  unfold nearsB
  exact all_true nearB (0, 0) p h
theorem nears_not {p : List Pnt} {j : Nat} (hj : j < p.length) (h : nearB (ptAt p j) = false) : nearsB p = false := by
  unfold nearsB
  exact all_false nearB (0, 0) p j hj h
theorem dsV_no {ns : List Int} {f : Int} {p : List Pnt} {cl : Bool} (h : dsIn ns f p = false) : dsV ns f p cl = ([], false) := by
  unfold dsV; rw [h]; rfl
set_option maxRecDepth 100000 in
set_option maxHeartbeats 8000000 in
/-- Dashed, by the reference. -/
theorem sdashed (w : World) (pa : Option Addr) (pc : Nat) (p : List Pnt) (cl : Bool) (na : Option Addr) (nc : Nat) (ns : List Int) (f : Int) (hp : p.length ≤ 1048576) (hn : ns.length ≤ 1048576) (hP : Pts w pa p) (hI : Ints w na ns) :
    Calls Try.prog 6 #[.agg #[.slice pa p.length pc, .bool cl], .slice na ns.length nc, .int .i64 f] w fun e w' => ∃ v, e = .returned (.tuple #[v, .bool (dsV ns f p cl).2]) ∧ LsOk w' w.heap.size v (dsV ns f p cl).1 ∧ Nw w w' := by
  obtain ⟨W1, hW1⟩ : ∃ W1, w.alloc (.cells #[.slice pa p.length pc, .bool cl] 32) = W1 := ⟨_, rfl⟩
  have N1 : Hid (Nw w W1) := by show Nw _ _; rw [← hW1]; exact (Below.refl _ _).alloc (Nat.le_refl _) _
  have q0 : W1.cell? ⟨w.heap.size, 0, none⟩ = some (.slice pa p.length pc) := by rw [← hW1, World.cell?_alloc_at _ _ _ _ rfl]; rfl
  have q1 : W1.cell? ⟨w.heap.size, 1, none⟩ = some (.bool cl) := by rw [← hW1, World.cell?_alloc_at _ _ _ _ rfl]; rfl
  have LB := World.block_lt_of_cell? W1 ⟨w.heap.size, 0, none⟩ q0
  have CBL : Hid (∀ w', Nw W1 w' → w'.cell? ⟨w.heap.size, 0, none⟩ = some (.slice pa p.length pc) ∧ w'.cell? ⟨w.heap.size, 1, none⟩ = some (.bool cl)) := fun w' k => ⟨((bcell k).1 _ _ LB).trans q0, ((bcell k).1 _ _ LB).trans q1⟩
  have HW1 : Hid (_ = W1) := hW1
  have H1 : Hid (∀ w, Calls Try.prog 24 #[.int .i64 (p.length : Int), .int .i64 1, .int .i64 600] w fun e w' => e = .returned (.bool (decide ((1 : Int) ≤ (p.length : Int) ∧ (p.length : Int) ≤ 600))) ∧ w' = w) := fun w => in_any w p.length 1 600
  have e1 : decide ((1 : Int) ≤ (p.length : Int) ∧ (p.length : Int) ≤ 600) = decide (1 ≤ p.length ∧ p.length ≤ 600) := by rw [Bool.eq_iff_iff]; simp; omega
  rw [e1] at H1
  have HD : Hid _ := sl10dash W1 na nc ns f hn (Ints.nw hI N1.out)
  obtain ⟨R, hR⟩ : ∃ R, dsV ns f p cl = R := ⟨_, rfl⟩
  rw [hR]
  have HR : Hid (dsV ns f p cl = R) := hR
  have HP : Hid (Pts w pa p) := hP
  have HI : Hid (Ints w na ns) := hI
  by_cases h6 : 1 ≤ p.length ∧ p.length ≤ 600
  · rw [decide_eq_true h6] at H1
    cases hdb : dshB ns f with
    | false =>
      rw [hdb] at HD
      have HE : Hid (R = ([], false)) := by
        show _ = _
        rw [← HR.out]; refine dsV_no ?_
        unfold dsIn; rw [hdb]; simp
      clear hdb e1 hW1 hR hP hI LB h6
      generalize p.length = np at *
      generalize ns.length = nn at *
      go_enter Try.func6, Try.ntmps6
      go_wp2_with fail
      rw [HW1.out]
      refine Calls.mono (H1.out _) ?_
      rintro e w2 ⟨rfl, rfl⟩
      go_wp2_with fail
      refine Calls.mono HD.out ?_
      rintro e w3 ⟨rfl, k3⟩
      have N3 : Hid (Nw w w3) := Nw.trans N1.out k3.nw
      clear k3
      go_wp2
      go_ret2
      exact ⟨.slice none 0 0, by rw [HE.out]; rfl, by rw [HE.out]; exact LsOk.of (OwnLn.nil _ _) rfl, N3.out⟩
    | true =>
      rw [hdb] at HD
      obtain ⟨z1, z2, z3⟩ := dsh_NB hdb
      have HNS : Hid (∀ i, i < ns.length → 0 ≤ intAt ns i ∧ intAt ns i ≤ 67108864) := z3
      obtain ⟨g, off, hpa, hlie⟩ := Pts.lie hP (by omega)
      subst hpa
      have HL : Hid (LieP w g off p) := hlie
      have HIN : Hid (dsIn ns f p = nearsB p) := by
        show _ = _
        unfold dsIn; rw [hdb, decide_eq_true h6]; simp
      have HLP : Hid (p.length = p.length) := rfl
      clear hdb e1 hW1 hR hP hI LB hlie
      generalize hnp : p.length = np at *
      have HNP : Hid (p.length = np) := hnp
      generalize hnn : ns.length = nn at *
      have HNN : Hid (ns.length = nn) := hnn
      clear hnp hnn HLP
      have hd8 : nn ≤ 8 := z1
      clear z3
      go_enter Try.func6, Try.ntmps6
      go_wp2_with fail
      rw [HW1.out]
      refine Calls.mono (H1.out _) ?_
      rintro e w2 ⟨rfl, rfl⟩
      go_wp2_with fail
      refine Calls.mono HD.out ?_
      rintro e w3 ⟨rfl, k3⟩
      have K3 : Hid (Nw w2 w3) := k3.nw
      obtain ⟨l0, l1⟩ := CBL.out w3 k3.nw
      clear k3 q0 q1
      go_wp2
      clear l0 l1
      go_loopw [26] (fun i wr => ∃ k : Nat, k ≤ np ∧ i = .int .i64 (k : Int) ∧ Nw w2 wr ∧ ∀ j, j < k → nearB (ptAt p j) = true) (fun i _ => np - (intOf i).toNat)
      case atStart => exact ⟨0, Nat.zero_le _, rfl, K3.out, fun j hj => absurd hj (by omega)⟩
      case round =>
        obtain ⟨k, hk, rfl, nk, ha⟩ := hrel
        have NK : Hid (Nw w2 wr) := nk
        have HA : Hid _ := ha
        clear nk ha
        by_cases hlt : k < np
        · obtain ⟨r0, r1⟩ := (LieP.nw HL.out (Nw.trans N1.out NK.out)).2 k (by rw [HNP.out]; exact hlt)
          have HC : Hid (∀ w, _) := fun w => snear w (ptAt p k).1 (ptAt p k).2
          have ep : nearB ((ptAt p k).1, (ptAt p k).2) = nearB (ptAt p k) := rfl
          rw [ep] at HC
          cases hnb : nearB (ptAt p k) with
          | false =>
            rw [hnb] at HC
            have HE : Hid (R = ([], false)) := by
              show _ = _
              rw [← HR.out]; refine dsV_no ?_
              rw [HIN.out]; exact nears_not (j := k) (by rw [HNP.out]; exact hlt) hnb
            clear hnb ep
            generalize (ptAt p k).1 = x at *
            generalize (ptAt p k).2 = y at *
            go_wp2_with fail
            refine Calls.mono (HC.out _) ?_
            rintro e w5 ⟨rfl, k5⟩
            have N5 : Hid (Nw w w5) := Nw.trans N1.out (Nw.trans NK.out (Nw.trans ((Below.refl _ _).alloc (Nat.le_refl _) _) k5.nw))
            clear k5 r0 r1
            go_wp2
            go_ret2
            exact ⟨.slice none 0 0, by rw [HE.out]; rfl, by rw [HE.out]; exact LsOk.of (OwnLn.nil _ _) rfl, N5.out⟩
          | true =>
            rw [hnb] at HC
            have HNB : Hid (nearB (ptAt p k) = true) := hnb
            clear hnb ep
            generalize hx : (ptAt p k).1 = x at *
            generalize hy : (ptAt p k).2 = y at *
            clear hx hy
            go_wp2_with fail
            refine Calls.mono (HC.out _) ?_
            rintro e w5 ⟨rfl, k5⟩
            have N5 : Hid (Nw w2 w5) := Nw.trans NK.out (Nw.trans ((Below.refl _ _).alloc (Nat.le_refl _) _) k5.nw)
            clear k5 r0 r1
            go_wp2
            go_roundw
            case rel =>
              refine ⟨k + 1, by omega, by go_num, N5.out, fun j hj => ?_⟩
              rcases Nat.lt_succ_iff_lt_or_eq.1 hj with h | h
              · exact HA.out j h
              · rw [h]; exact HNB.out
            case measure => simp [intOf]; omega
        · have hkn : np = k := by omega
          subst hkn
          have hne : nearsB p = true := nears_all (fun j hj => HA.out j (by rw [HNP.out] at hj; exact hj))
          have hin : dsIn ns f p = true := by rw [HIN.out]; exact hne
          obtain ⟨l0, l1⟩ := CBL.out wr NK.out
          have NW : Hid (Nw w wr) := Nw.trans N1.out NK.out
          by_cases hs : sumN ns ns.length = 0
          · have HE : Hid (R = ([⟨p, cl⟩], true)) := by
              show _ = _
              rw [← HR.out]; unfold dsV; rw [if_pos hin, if_pos hs]
            have HB : Hid _ := sdashB wr g off pc p cl na nc ns f (by rw [HNP.out]; omega) (by rw [HNP.out]; omega) (by rw [HNN.out]; exact hd8) (fun i hi => (HNS.out i (by rw [HNN.out] at hi; exact hi)).1) hs (LieP.nw HL.out NW.out) (Ints.nw HI.out NW.out)
            rw [HNP.out, HNN.out] at HB
            clear hs hin hne hlt hk
            go_wp2_with fail
            refine Calls.mono HB.out ?_
            rintro e w6 ⟨v, rfl, o6, n6⟩
            have O6 : Hid _ := o6
            have N6 : Hid (Nw w w6) := Nw.trans NW.out n6
            have B6 : Hid (LsOk w6 w.heap.size v [⟨p, cl⟩]) := by
              obtain ⟨it, oi, ei⟩ := o6
              exact LsOk.of (OwnLn.base oi (Below.size NW.out)) ei
            clear o6 n6 l0 l1
            go_wp2
            go_ret2
            exact ⟨v, by rw [HE.out]; rfl, by rw [HE.out]; exact B6.out, N6.out⟩
          · have hnn0 : 0 < ns.length := sum_some hs
            have hNBs : NB ns := ⟨hnn0, fun i hi => HNS.out i (by rw [HNN.out] at hi; exact hi)⟩
            have hrp : 0 < rndN ns := by
              have := (sumN_bd hNBs.2 ns.length (Nat.le_refl _)).1
              unfold rndN
              split <;> omega
            have hall := all_both hNBs (by rw [HNN.out]; exact hd8) (Int.emod_nonneg f (show rndN ns ≠ 0 by omega)) (Int.emod_lt_of_pos f hrp) p cl (d := dash1 ns f p cl) rfl
            have HE : Hid (R = if (wk2 ns (f % rndN ns) p cl).many ≤ 600 ∧ (wk2 ns (f % rndN ns) p cl).begun ≤ 2400 then ((wk2 ns (f % rndN ns) p cl).out, true) else ([], false)) := by
              show _ = _
              rw [← hall, ← HR.out]
              unfold dsV
              rw [if_pos hin, if_neg hs]
            have HB : Hid _ := sdashC wr g off pc p cl na nc ns f (by rw [HNP.out]; omega) (by rw [HNP.out]; omega) hne (by rw [HNN.out]; exact hd8) hNBs z2.1 z2.2 hs (LieP.nw HL.out NW.out) (Ints.nw HI.out NW.out)
            rw [HNP.out, HNN.out] at HB
            clear hs hin hne hlt hk hall hnn0 hNBs hrp
            generalize wk2 ns (f % rndN ns) p cl = T at *
            by_cases hT : T.many ≤ 600 ∧ T.begun ≤ 2400
            · rw [if_pos hT] at HE
              rw [decide_eq_true hT] at HB
              clear hT
              go_wp2_with fail
              refine Calls.mono HB.out ?_
              rintro e w6 ⟨v, rfl, o6, n6⟩
              have N6 : Hid (Nw w w6) := Nw.trans NW.out n6
              have B6 : Hid (LsOk w6 w.heap.size v T.out) := by
                obtain ⟨it, oi, ei⟩ := o6
                exact LsOk.of (OwnLn.base oi (Below.size NW.out)) ei
              clear o6 n6 l0 l1
              go_wp2
              go_ret2
              exact ⟨v, by rw [HE.out]; rfl, by rw [HE.out]; exact B6.out, N6.out⟩
            · rw [if_neg hT] at HE
              rw [decide_eq_false hT] at HB
              clear hT
              go_wp2_with fail
              refine Calls.mono HB.out ?_
              rintro e w6 ⟨v, rfl, o6, n6⟩
              have N6 : Hid (Nw w w6) := Nw.trans NW.out n6
              clear o6 n6 l0 l1
              go_wp2
              go_ret2
              exact ⟨.slice none 0 0, by rw [HE.out]; rfl, by rw [HE.out]; exact LsOk.of (OwnLn.nil _ _) rfl, N6.out⟩
  · rw [decide_eq_false h6] at H1
    have HE : Hid (R = ([], false)) := by
      show _ = _
      rw [← HR.out]; refine dsV_no ?_
      unfold dsIn; rw [decide_eq_false h6]; simp
    clear e1 hW1 hR hP hI LB h6
    generalize p.length = np at *
    generalize ns.length = nn at *
    go_enter Try.func6, Try.ntmps6
    go_wp2_with fail
    rw [HW1.out]
    refine Calls.mono (H1.out _) ?_
    rintro e w2 ⟨rfl, rfl⟩
    go_wp2
    go_ret2
    exact ⟨.slice none 0 0, by rw [HE.out]; rfl, by rw [HE.out]; exact LsOk.of (OwnLn.nil _ _) rfl, N1.out⟩
/-- Dashed, by the program. -/
theorem idashed (w : World) (pa : Option Addr) (pc : Nat) (p : List Pnt) (cl : Bool) (na : Option Addr) (nc : Nat) (ns : List Int) (f : Int) (hp : p.length ≤ 1048576) (hn : ns.length ≤ 1048576) (hcap : p.length ≤ pc) (hP : Pts w pa p) (hI : Ints w na ns) :
    Calls Try.prog 9 #[.agg #[.slice pa p.length pc, .bool cl], .slice na ns.length nc, .int .i64 f] w fun e w' => ∃ v, e = .returned (.tuple #[v, .bool (dsV ns f p cl).2]) ∧ LsOk w' w.heap.size v (dsV ns f p cl).1 ∧ Nw w w' := by
  cases hin : dsIn ns f p with
  | false =>
    rw [dsV_no hin]
    refine Calls.mono (idashA w pa pc p cl na nc ns f hp hn hP hI hin) ?_
    rintro e w' ⟨rfl, n1⟩
    exact ⟨_, rfl, LsOk.of (OwnLn.nil _ _) rfl, n1⟩
  | true =>
    by_cases hs : sumN ns ns.length = 0
    · have e : dsV ns f p cl = ([⟨p, cl⟩], true) := by unfold dsV; rw [if_pos hin, if_pos hs]
      rw [e]
      exact idashB w pa pc p cl na nc ns f hp hn hP hI hin hs
    · exact idashC w pa pc p cl na nc ns f hp hn hP hI hcap hin hs
end Go.Proofs.Ytjjndpbplclidaa
namespace Go.Proofs.Ytjjndpbplclidaa
open Go.ChangeShapes Go.WideShapes Go.ChangeAt Go.RowKit
set_option linter.unusedVariables false

structure DL13 where
  b3 : Nat
  bx : Nat
  pa : Option Addr
  n : Nat
  pc : Nat
  cl : Bool
  g : Nat
  P : World → Value → Prop
  Q : World → Prop
  W : World
  a0 : Act
structure DL13Ok (X : DL13) : Prop where
  a0 : X.W.cell? ⟨X.b3, 0, none⟩ = some (.slice X.pa X.n X.pc)
  a1 : X.W.cell? ⟨X.b3, 1, none⟩ = some (.bool X.cl)
  x0 : X.W.cell? ⟨X.bx, 0, none⟩ = some (.slice (some ⟨X.g, 0, none⟩) X.n X.n)
  x1 : X.W.cell? ⟨X.bx, 1, none⟩ = some (.bool X.cl)
  ht : Calls Try.prog 7 #[.agg #[.slice X.pa X.n X.pc, .bool X.cl]] X.W fun e w' => ∃ v, e = .returned (.agg #[v, .bool X.cl]) ∧ X.P w' v
  hn : ∀ w v, X.P w v → Nw X.W w
  he : ∀ w v, X.P w v → Calls Try.prog 11 #[.agg #[.slice (some ⟨X.g, 0, none⟩) X.n X.n, .bool X.cl], .agg #[v, .bool X.cl]] w fun e w' => e = .returned (.bool true) ∧ X.Q w'
  e3 : X.a0.eval (.tmp 3) = .pointer (some ⟨X.b3, 0, none⟩)
  e10 : X.a0.eval (.tmp 10) = .pointer (some ⟨X.bx, 0, none⟩)
  sz : X.a0.tmps.size = 122
def DL13.val0 (X : DL13) : Nat → Value
  | 56 => .agg #[.slice (some ⟨X.g, 0, none⟩) X.n X.n, .bool X.cl]
  | 57 => .agg #[.slice X.pa X.n X.pc, .bool X.cl]
  | _ => undef
def DL13.av : Nat → Option Nat
  | 58 => some 0
  | 59 => some 1
  | 60 => some 2
  | _ => none
def DL13.acts : List Nat := [2, 3, 4]
/-- The world, by how many of the acting ones have come up. -/
def DL13.Wd (X : DL13) : Nat → (Nat → Value) → World → Prop
  | 0, _, w => w = X.W
  | 1, γ, w => ∃ v, γ 0 = .agg #[v, .bool X.cl] ∧ X.P w v
  | 2, γ, w => γ 1 = .bool true ∧ X.Q w
  | _, γ, w => γ 2 = .bool false ∧ X.Q w
theorem DL13.chain : chainG (opsOf 13 Try.f3) DL13.acts = true := by kernel_rfl
theorem DL13.nodup : DL13.acts.Nodup := by decide
theorem DL13.inj {listed : Array Bool} {i k : Nat} (h : (List.range (opsOf 13 Try.f3).size).all (fun j => decide (j = i) || !(match dstOf (opsOf 13 Try.f3) j with | some d => decide (DL13.av d = some k) | none => false)) = true) (hu : listed.getD i false = false) : ∀ d, got (opsOf 13 Try.f3) listed d → DL13.av d ≠ some k := by
  rintro d ⟨j, h1, h2⟩ h3
  have hlt : j < (opsOf 13 Try.f3).size := by
    rcases Nat.lt_or_ge j (opsOf 13 Try.f3).size with h4 | h4
    · exact h4
    · unfold dstOf at h2; rw [Array.getElem?_eq_none h4] at h2; cases h2
  have h5 := List.all_eq_true.1 h j (List.mem_range.2 hlt)
  rw [h2] at h5
  simp only [h3, decide_true, Bool.not_true, Bool.or_false, decide_eq_true_eq] at h5
  subst h5
  rw [hu] at h1
  cases h1
theorem DL13.s0 (X : DL13) (ok : DL13Ok X) {Q : Exit → Act → World → Prop} : StepG (opsOf 13 Try.f3) DL13.acts DL13.av X.val0 X.Wd X.a0 Q 0 := by
  intro γ listed a w o hF hC hW h1 ho h2
  obtain ⟨hd, hop, hg⟩ := fields2 (x := some 56) (y := Op.load 32 (.tmp 10)) (z := none) (by kernel_rfl) ho
  have e10 : a.eval (.tmp 10) = .pointer (some ⟨X.bx, 0, none⟩) := (hF.eval0 (by kernel_rfl)).trans ok.e10
  have hph := phase_leG (acts := DL13.acts) (m := 1) (x := 3) hC (unl (hF.lt ho) h1) rfl [0] (by kernel_rfl) (by decide)
  have hWW := hW
  generalize phase listed DL13.acts = n at hph hWW
  have hk : Nw X.W w := by
    rcases (show n = 0 ∨ n = 1 by omega) with rfl | rfl
    · have : w = X.W := hWW
      rw [this]; exact Below.refl _ _
    · obtain ⟨v, _, h9⟩ := hWW
      exact ok.hn _ _ h9
  have hc0 := ((bcell hk).1 _ _ (World.block_lt_of_cell? X.W ⟨X.bx, 0, none⟩ ok.x0)).trans ok.x0
  have hc1 := ((bcell hk).1 _ _ (World.block_lt_of_cell? X.W ⟨X.bx, 1, none⟩ ok.x1)).trans ok.x1
  refine st_pureG hF hC hW ho h2 (by decide) hd hg rfl ?_
  show _ = Result.ok (Next.value (.agg #[.slice (some ⟨X.g, 0, none⟩) X.n X.n, .bool X.cl])) w
  generalize a.eval = ρ at e10 ⊢
  unfold execOp
  rw [hop]
  simp [e10, hc0, hc1, go_sem]
theorem DL13.s1 (X : DL13) (ok : DL13Ok X) {Q : Exit → Act → World → Prop} : StepG (opsOf 13 Try.f3) DL13.acts DL13.av X.val0 X.Wd X.a0 Q 1 := by
  intro γ listed a w o hF hC hW h1 ho h2
  obtain ⟨hd, hop, hg⟩ := fields2 (x := some 57) (y := Op.load 24 (.tmp 3)) (z := none) (by kernel_rfl) ho
  have e3 : a.eval (.tmp 3) = .pointer (some ⟨X.b3, 0, none⟩) := (hF.eval0 (by kernel_rfl)).trans ok.e3
  have hph := phase_leG (acts := DL13.acts) (m := 0) (x := 2) hC (unl (hF.lt ho) h1) rfl [1] (by kernel_rfl) (by decide)
  have hWW := hW
  generalize phase listed DL13.acts = n at hph hWW
  obtain rfl : n = 0 := by omega
  have hk : w = X.W := hWW
  have hc0 := ok.a0
  have hc1 := ok.a1
  rw [← hk] at hc0 hc1
  refine st_pureG hF hC hW ho h2 (by decide) hd hg rfl ?_
  show _ = Result.ok (Next.value (.agg #[.slice X.pa X.n X.pc, .bool X.cl])) w
  generalize a.eval = ρ at e3 ⊢
  unfold execOp
  rw [hop]
  simp [e3, hc0, hc1, go_sem]
theorem DL13.s2 (X : DL13) (ok : DL13Ok X) {Q : Exit → Act → World → Prop} : StepG (opsOf 13 Try.f3) DL13.acts DL13.av X.val0 X.Wd X.a0 Q 2 := by
  intro γ listed a w o hF hC hW h1 ho h2
  obtain ⟨hd, hop, hg⟩ := fields2 (x := some 58) (y := Op.call { callee := .value (.func 7), args := #[(.tmp 57)], argTypes := #[24] }) (z := none) (by kernel_rfl) ho
  have e57 : a.eval (.tmp 57) = .agg #[.slice X.pa X.n X.pc, .bool X.cl] := slotG hF ho h2 (j := 1) (d := 57) (by kernel_rfl) (by kernel_rfl) (by rw [ok.sz]; decide)
  have ef : a.eval (.func 7) = .func (.func 7) #[] #[] := rfl
  have hu := unl (hF.lt ho) h1
  refine st_actG (k := 0) DL13.chain DL13.nodup rfl hF hC hW h1 ho h2 (Or.inr ⟨58, hd, rfl⟩) (DL13.inj (by kernel_rfl) hu) hg ?_
  intro hW0 K hK
  have hw0 : w = X.W := hW0
  have hr : (execOp a.eval o).run Try.prog w = .ok (.enter 7 #[.agg #[.slice X.pa X.n X.pc, .bool X.cl]]) w := by
    generalize a.eval = ρ at e57 ef ⊢
    unfold execOp
    rw [hop]
    simp [e57, ef, go_sem]
  unfold Oper.wp
  rw [hr]
  refine Calls.mono (by rw [hw0]; exact ok.ht) ?_
  rintro e w' ⟨v, rfl, h⟩
  exact hK _ _ ⟨v, rfl, h⟩
theorem DL13.s3 (X : DL13) (ok : DL13Ok X) {Q : Exit → Act → World → Prop} : StepG (opsOf 13 Try.f3) DL13.acts DL13.av X.val0 X.Wd X.a0 Q 3 := by
  intro γ listed a w o hF hC hW h1 ho h2
  obtain ⟨hd, hop, hg⟩ := fields2 (x := some 59) (y := Op.call { callee := .value (.func 11), args := #[(.tmp 56), (.tmp 58)], argTypes := #[32, 32] }) (z := none) (by kernel_rfl) ho
  have e56 : a.eval (.tmp 56) = .agg #[.slice (some ⟨X.g, 0, none⟩) X.n X.n, .bool X.cl] := slotG hF ho h2 (j := 0) (d := 56) (by kernel_rfl) (by kernel_rfl) (by rw [ok.sz]; decide)
  have e58 : a.eval (.tmp 58) = γ 0 := slotG hF ho h2 (j := 2) (d := 58) (by kernel_rfl) (by kernel_rfl) (by rw [ok.sz]; decide)
  have ef : a.eval (.func 11) = .func (.func 11) #[] #[] := rfl
  have hu := unl (hF.lt ho) h1
  refine st_actG (k := 1) DL13.chain DL13.nodup rfl hF hC hW h1 ho h2 (Or.inr ⟨59, hd, rfl⟩) (DL13.inj (by kernel_rfl) hu) hg ?_
  intro hW0 K hK
  obtain ⟨v, g0, hP⟩ := hW0
  rw [g0] at e58
  have hr : (execOp a.eval o).run Try.prog w = .ok (.enter 11 #[.agg #[.slice (some ⟨X.g, 0, none⟩) X.n X.n, .bool X.cl], .agg #[v, .bool X.cl]]) w := by
    generalize a.eval = ρ at e56 e58 ef ⊢
    unfold execOp
    rw [hop]
    simp [e56, e58, ef, go_sem]
  unfold Oper.wp
  rw [hr]
  refine Calls.mono (ok.he _ _ hP) ?_
  rintro e w' ⟨rfl, h⟩
  exact hK _ _ ⟨rfl, h⟩
theorem DL13.s4 (X : DL13) (ok : DL13Ok X) {Q : Exit → Act → World → Prop} : StepG (opsOf 13 Try.f3) DL13.acts DL13.av X.val0 X.Wd X.a0 Q 4 := by
  intro γ listed a w o hF hC hW h1 ho h2
  obtain ⟨hd, hop, hg⟩ := fields2 (x := some 60) (y := Op.unOp .not 4 (.tmp 59)) (z := none) (by kernel_rfl) ho
  have e59 : a.eval (.tmp 59) = γ 1 := slotG hF ho h2 (j := 3) (d := 59) (by kernel_rfl) (by kernel_rfl) (by rw [ok.sz]; decide)
  have hu := unl (hF.lt ho) h1
  refine st_actG (k := 2) DL13.chain DL13.nodup rfl hF hC hW h1 ho h2 (Or.inr ⟨60, hd, rfl⟩) (DL13.inj (by kernel_rfl) hu) hg ?_
  intro hW0 K hK
  obtain ⟨g1, hQ⟩ := hW0
  rw [g1] at e59
  have hr : (execOp a.eval o).run Try.prog w = .ok (.value (.bool false)) w := by
    generalize a.eval = ρ at e59 ⊢
    unfold execOp
    rw [hop]
    simp [e59, go_sem]
  unfold Oper.wp
  rw [hr]
  exact hK _ _ ⟨rfl, hQ⟩
theorem DL13.size : (opsOf 13 Try.f3).size = 5 := by kernel_rfl
theorem DL13.steps (X : DL13) (ok : DL13Ok X) {Q : Exit → Act → World → Prop} (i : Nat) (hi : i < (opsOf 13 Try.f3).size) : StepG (opsOf 13 Try.f3) DL13.acts DL13.av X.val0 X.Wd X.a0 Q i := by
  rw [DL13.size] at hi
  have hc : i = 0 ∨ i = 1 ∨ i = 2 ∨ i = 3 ∨ i = 4 := by omega
  rcases hc with rfl | rfl | rfl | rfl | rfl
  · exact DL13.s0 X ok
  · exact DL13.s1 X ok
  · exact DL13.s2 X ok
  · exact DL13.s3 X ok
  · exact DL13.s4 X ok
theorem DL13.puts (X : DL13) (γ : Nat → Value) (a0 : Act) : putsL (valG DL13.av X.val0 γ) (opsOf 13 Try.f3).toList a0 = (((((a0.put (some 56) (.agg #[.slice (some ⟨X.g, 0, none⟩) X.n X.n, .bool X.cl])).put (some 57) (.agg #[.slice X.pa X.n X.pc, .bool X.cl])).put (some 58) (γ 0)).put (some 59) (γ 1)).put (some 60) (γ 2)) := by kernel_rfl
/-- The region, whatever order comes up. -/
theorem DL13.run (X : DL13) (ok : DL13Ok X) {Q : Exit → Act → World → Prop} (w : World) (h0 : X.Wd 0 (fun _ => undef) w.drew) (hend : ∀ (γ : Nat → Value) w', X.Wd 3 γ w' → Q .normal (((((X.a0.put (some 56) (.agg #[.slice (some ⟨X.g, 0, none⟩) X.n X.n, .bool X.cl])).put (some 57) (.agg #[.slice X.pa X.n X.pc, .bool X.cl])).put (some 58) (γ 0)).put (some 59) (γ 1)).put (some 60) (γ 2)) w') : (Code.region 13 (opsOf 13 Try.f3) true).wp Try.prog Q X.a0 w := by
  refine reg_act (acts := DL13.acts) (av := DL13.av) (val0 := X.val0) (Wd := X.Wd) (by kernel_rfl) (by kernel_rfl) (by rw [DL13.size]; decide) (fun i hi => DL13.steps X ok i hi) _ h0 ?_
  intro γ w' h
  rw [DL13.puts]
  exact hend γ w' h
end Go.Proofs.Ytjjndpbplclidaa
