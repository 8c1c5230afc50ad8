/-
  Lines cut into dashes, of both: Dashed; each theorem names its conditions.
  Lists whose blocks lie between two bounds, kept where nothing there is written; each theorem names its conditions.
  Dashes can be stroked; how the strokes of lines add up; each theorem names its conditions.
  Strokes of lines, by the specification: l10Stroke; each theorem names its conditions.
-/
import Derived.Test.YtfdjjbgcaojcnaaGreatJBC
import Derived.Test.YtfdjjbgcaojcnaaGreatJAU
import Derived.Test.YtfdjjbgcaojcnaaGreatJAV
import Derived.Test.YtfdjjbgcaojcnaaGreatJAY
namespace Go.Proofs.YtfdjjbgcaojcnaaGreat
open Go.ChangeShapes Go.WideShapes Go.ChangeAt Go.RowKit
set_option linter.unusedVariables false

theorem sl10dash (w : World) (a : Option Addr) (c : Nat) (l : List Int) (f : Int) (hl : l.length ≤ 1048576) (hr : Ints w a l) :
    Calls Tryz.prog 37 #[.slice a l.length c, .int .i64 f] w fun e w' => e = .returned (.bool (dshB l f)) ∧ Kp w w' := by
  have H : Hid _ := sgoodPen w ⟨0, 1, 1, f⟩ a c l hl hr
  have e : penB ⟨0, 1, 1, f⟩ l = dshB l f := by unfold penB; simp
  rw [e] at H
  unfold penV at H
  clear hr e
  generalize l.length = n at *
  generalize dshB l f = V at *
  go_enter Tryz.func37, Tryz.ntmps37
  go_wp2_with fail
  refine Calls.mono H.out ?_
  rintro e w1 ⟨rfl, k1⟩
  go_wp2
  go_ret
  exact ⟨rfl, k1⟩
theorem nears_all {p : List Pnt} (h : ∀ j, j < p.length → nearB (ptAt p j) = true) : nearsB p = true := by
  unfold nearsB
  exact all_true nearB (0, 0) p h
theorem nears_not {p : List Pnt} {j : Nat} (hj : j < p.length) (h : nearB (ptAt p j) = false) : nearsB p = false := by
  unfold nearsB
  exact all_false nearB (0, 0) p j hj h
theorem dsV_no {ns : List Int} {f : Int} {p : List Pnt} {cl : Bool} (h : dsIn ns f p = false) : dsV ns f p cl = ([], false) := by
  unfold dsV; rw [h]; rfl
set_option maxRecDepth 100000 in
set_option maxHeartbeats 8000000 in
/-- Dashed, by the reference. -/
theorem sdashed (w : World) (pa : Option Addr) (pc : Nat) (p : List Pnt) (cl : Bool) (na : Option Addr) (nc : Nat) (ns : List Int) (f : Int) (hp : p.length ≤ 1048576) (hn : ns.length ≤ 1048576) (hP : Pts w pa p) (hI : Ints w na ns) :
    Calls Tryz.prog 7 #[.agg #[.slice pa p.length pc, .bool cl], .slice na ns.length nc, .int .i64 f] w fun e w' => ∃ v, e = .returned (.tuple #[v, .bool (dsV ns f p cl).2]) ∧ LsOk w' w.heap.size v (dsV ns f p cl).1 ∧ Nw w w' := by
  obtain ⟨W1, hW1⟩ : ∃ W1, w.alloc (.cells #[.slice pa p.length pc, .bool cl] 25) = W1 := ⟨_, rfl⟩
  have N1 : Hid (Nw w W1) := by show Nw _ _; rw [← hW1]; exact (Below.refl _ _).alloc (Nat.le_refl _) _
  have q0 : W1.cell? ⟨w.heap.size, 0, none⟩ = some (.slice pa p.length pc) := by rw [← hW1, World.cell?_alloc_at _ _ _ _ rfl]; rfl
  have q1 : W1.cell? ⟨w.heap.size, 1, none⟩ = some (.bool cl) := by rw [← hW1, World.cell?_alloc_at _ _ _ _ rfl]; rfl
  have LB := World.block_lt_of_cell? W1 ⟨w.heap.size, 0, none⟩ q0
  have CBL : Hid (∀ w', Nw W1 w' → w'.cell? ⟨w.heap.size, 0, none⟩ = some (.slice pa p.length pc) ∧ w'.cell? ⟨w.heap.size, 1, none⟩ = some (.bool cl)) := fun w' k => ⟨((bcell k).1 _ _ LB).trans q0, ((bcell k).1 _ _ LB).trans q1⟩
  have HW1 : Hid (_ = W1) := hW1
  have H1 : Hid (∀ w, Calls Tryz.prog 36 #[.int .i64 (p.length : Int), .int .i64 1, .int .i64 600] w fun e w' => e = .returned (.bool (decide ((1 : Int) ≤ (p.length : Int) ∧ (p.length : Int) ≤ 600))) ∧ w' = w) := fun w => in_any w p.length 1 600
  have e1 : decide ((1 : Int) ≤ (p.length : Int) ∧ (p.length : Int) ≤ 600) = decide (1 ≤ p.length ∧ p.length ≤ 600) := by rw [Bool.eq_iff_iff]; simp; omega
  rw [e1] at H1
  have HD : Hid _ := sl10dash W1 na nc ns f hn (Ints.nw hI N1.out)
  obtain ⟨R, hR⟩ : ∃ R, dsV ns f p cl = R := ⟨_, rfl⟩
  rw [hR]
  have HR : Hid (dsV ns f p cl = R) := hR
  have HP : Hid (Pts w pa p) := hP
  have HI : Hid (Ints w na ns) := hI
  by_cases h6 : 1 ≤ p.length ∧ p.length ≤ 600
  · rw [decide_eq_true h6] at H1
    cases hdb : dshB ns f with
    | false =>
      rw [hdb] at HD
      have HE : Hid (R = ([], false)) := by
        show _ = _
        rw [← HR.out]; refine dsV_no ?_
        unfold dsIn; rw [hdb]; simp
      clear hdb e1 hW1 hR hP hI LB h6
      generalize p.length = np at *
      generalize ns.length = nn at *
      go_enter Tryz.func7, Tryz.ntmps7
      go_wp2_with fail
      rw [HW1.out]
      refine Calls.mono (H1.out _) ?_
      rintro e w2 ⟨rfl, rfl⟩
      go_wp2_with fail
      refine Calls.mono HD.out ?_
      rintro e w3 ⟨rfl, k3⟩
      have N3 : Hid (Nw w w3) := Nw.trans N1.out k3.nw
      clear k3
      go_wp2
      go_ret2
      exact ⟨.slice none 0 0, by rw [HE.out]; rfl, by rw [HE.out]; exact LsOk.of (OwnLn.nil _ _) rfl, N3.out⟩
    | true =>
      rw [hdb] at HD
      obtain ⟨z1, z2, z3⟩ := dsh_NB hdb
      have HNS : Hid (∀ i, i < ns.length → 0 ≤ intAt ns i ∧ intAt ns i ≤ 67108864) := z3
      obtain ⟨g, off, hpa, hlie⟩ := Pts.lie hP (by omega)
      subst hpa
      have HL : Hid (LieP w g off p) := hlie
      have HIN : Hid (dsIn ns f p = nearsB p) := by
        show _ = _
        unfold dsIn; rw [hdb, decide_eq_true h6]; simp
      have HLP : Hid (p.length = p.length) := rfl
      clear hdb e1 hW1 hR hP hI LB hlie
      generalize hnp : p.length = np at *
      have HNP : Hid (p.length = np) := hnp
      generalize hnn : ns.length = nn at *
      have HNN : Hid (ns.length = nn) := hnn
      clear hnp hnn HLP
      have hd8 : nn ≤ 8 := z1
      clear z3
      go_enter Tryz.func7, Tryz.ntmps7
      go_wp2_with fail
      rw [HW1.out]
      refine Calls.mono (H1.out _) ?_
      rintro e w2 ⟨rfl, rfl⟩
      go_wp2_with fail
      refine Calls.mono HD.out ?_
      rintro e w3 ⟨rfl, k3⟩
      have K3 : Hid (Nw w2 w3) := k3.nw
      obtain ⟨l0, l1⟩ := CBL.out w3 k3.nw
      clear k3 q0 q1
      go_wp2
      clear l0 l1
      go_loopw [26] (fun i wr => ∃ k : Nat, k ≤ np ∧ i = .int .i64 (k : Int) ∧ Nw w2 wr ∧ ∀ j, j < k → nearB (ptAt p j) = true) (fun i _ => np - (intOf i).toNat)
      case atStart => exact ⟨0, Nat.zero_le _, rfl, K3.out, fun j hj => absurd hj (by omega)⟩
      case round =>
        obtain ⟨k, hk, rfl, nk, ha⟩ := hrel
        have NK : Hid (Nw w2 wr) := nk
        have HA : Hid _ := ha
        clear nk ha
        by_cases hlt : k < np
        · obtain ⟨r0, r1⟩ := (LieP.nw HL.out (Nw.trans N1.out NK.out)).2 k (by rw [HNP.out]; exact hlt)
          have HC : Hid (∀ w, _) := fun w => snear w (ptAt p k).1 (ptAt p k).2
          have ep : nearB ((ptAt p k).1, (ptAt p k).2) = nearB (ptAt p k) := rfl
          rw [ep] at HC
          cases hnb : nearB (ptAt p k) with
          | false =>
            rw [hnb] at HC
            have HE : Hid (R = ([], false)) := by
              show _ = _
              rw [← HR.out]; refine dsV_no ?_
              rw [HIN.out]; exact nears_not (j := k) (by rw [HNP.out]; exact hlt) hnb
            clear hnb ep
            generalize (ptAt p k).1 = x at *
            generalize (ptAt p k).2 = y at *
            go_wp2_with fail
            refine Calls.mono (HC.out _) ?_
            rintro e w5 ⟨rfl, k5⟩
            have N5 : Hid (Nw w w5) := Nw.trans N1.out (Nw.trans NK.out (Nw.trans ((Below.refl _ _).alloc (Nat.le_refl _) _) k5.nw))
            clear k5 r0 r1
            go_wp2
            go_ret2
            exact ⟨.slice none 0 0, by rw [HE.out]; rfl, by rw [HE.out]; exact LsOk.of (OwnLn.nil _ _) rfl, N5.out⟩
          | true =>
            rw [hnb] at HC
            have HNB : Hid (nearB (ptAt p k) = true) := hnb
            clear hnb ep
            generalize hx : (ptAt p k).1 = x at *
            generalize hy : (ptAt p k).2 = y at *
            clear hx hy
            go_wp2_with fail
            refine Calls.mono (HC.out _) ?_
            rintro e w5 ⟨rfl, k5⟩
            have N5 : Hid (Nw w2 w5) := Nw.trans NK.out (Nw.trans ((Below.refl _ _).alloc (Nat.le_refl _) _) k5.nw)
            clear k5 r0 r1
            go_wp2
            go_roundw
            case rel =>
              refine ⟨k + 1, by omega, by go_num, N5.out, fun j hj => ?_⟩
              rcases Nat.lt_succ_iff_lt_or_eq.1 hj with h | h
              · exact HA.out j h
              · rw [h]; exact HNB.out
            case measure => simp [intOf]; omega
        · have hkn : np = k := by omega
          subst hkn
          have hne : nearsB p = true := nears_all (fun j hj => HA.out j (by rw [HNP.out] at hj; exact hj))
          have hin : dsIn ns f p = true := by rw [HIN.out]; exact hne
          obtain ⟨l0, l1⟩ := CBL.out wr NK.out
          have NW : Hid (Nw w wr) := Nw.trans N1.out NK.out
          by_cases hs : sumN ns ns.length = 0
          · have HE : Hid (R = ([⟨p, cl⟩], true)) := by
              show _ = _
              rw [← HR.out]; unfold dsV; rw [if_pos hin, if_pos hs]
            have HB : Hid _ := sdashB wr g off pc p cl na nc ns f (by rw [HNP.out]; omega) (by rw [HNP.out]; omega) (by rw [HNN.out]; exact hd8) (fun i hi => (HNS.out i (by rw [HNN.out] at hi; exact hi)).1) hs (LieP.nw HL.out NW.out) (Ints.nw HI.out NW.out)
            rw [HNP.out, HNN.out] at HB
            clear hs hin hne hlt hk
            go_wp2_with fail
            refine Calls.mono HB.out ?_
            rintro e w6 ⟨v, rfl, o6, n6⟩
            have O6 : Hid _ := o6
            have N6 : Hid (Nw w w6) := Nw.trans NW.out n6
            have B6 : Hid (LsOk w6 w.heap.size v [⟨p, cl⟩]) := by
              obtain ⟨it, oi, ei⟩ := o6
              exact LsOk.of (OwnLn.base oi (Below.size NW.out)) ei
            clear o6 n6 l0 l1
            go_wp2
            go_ret2
            exact ⟨v, by rw [HE.out]; rfl, by rw [HE.out]; exact B6.out, N6.out⟩
          · have hnn0 : 0 < ns.length := sum_some hs
            have hNBs : NB ns := ⟨hnn0, fun i hi => HNS.out i (by rw [HNN.out] at hi; exact hi)⟩
            have hrp : 0 < rndN ns := by
              have := (sumN_bd hNBs.2 ns.length (Nat.le_refl _)).1
              unfold rndN
              split <;> omega
            have hall := all_both hNBs (by rw [HNN.out]; exact hd8) (Int.emod_nonneg f (show rndN ns ≠ 0 by omega)) (Int.emod_lt_of_pos f hrp) p cl (d := dash1 ns f p cl) rfl
            have HE : Hid (R = if (wk2 ns (f % rndN ns) p cl).many ≤ 600 ∧ (wk2 ns (f % rndN ns) p cl).begun ≤ 2400 then ((wk2 ns (f % rndN ns) p cl).out, true) else ([], false)) := by
              show _ = _
              rw [← hall, ← HR.out]
              unfold dsV
              rw [if_pos hin, if_neg hs]
            have HB : Hid _ := sdashC wr g off pc p cl na nc ns f (by rw [HNP.out]; omega) (by rw [HNP.out]; omega) hne (by rw [HNN.out]; exact hd8) hNBs z2.1 z2.2 hs (LieP.nw HL.out NW.out) (Ints.nw HI.out NW.out)
            rw [HNP.out, HNN.out] at HB
            clear hs hin hne hlt hk hall hnn0 hNBs hrp
            generalize wk2 ns (f % rndN ns) p cl = T at *
            by_cases hT : T.many ≤ 600 ∧ T.begun ≤ 2400
            · rw [if_pos hT] at HE
              rw [decide_eq_true hT] at HB
              clear hT
              go_wp2_with fail
              refine Calls.mono HB.out ?_
              rintro e w6 ⟨v, rfl, o6, n6⟩
              have N6 : Hid (Nw w w6) := Nw.trans NW.out n6
              have B6 : Hid (LsOk w6 w.heap.size v T.out) := by
                obtain ⟨it, oi, ei⟩ := o6
                exact LsOk.of (OwnLn.base oi (Below.size NW.out)) ei
              clear o6 n6 l0 l1
              go_wp2
              go_ret2
              exact ⟨v, by rw [HE.out]; rfl, by rw [HE.out]; exact B6.out, N6.out⟩
            · rw [if_neg hT] at HE
              rw [decide_eq_false hT] at HB
              clear hT
              go_wp2_with fail
              refine Calls.mono HB.out ?_
              rintro e w6 ⟨v, rfl, o6, n6⟩
              have N6 : Hid (Nw w w6) := Nw.trans NW.out n6
              clear o6 n6 l0 l1
              go_wp2
              go_ret2
              exact ⟨.slice none 0 0, by rw [HE.out]; rfl, by rw [HE.out]; exact LsOk.of (OwnLn.nil _ _) rfl, N6.out⟩
  · rw [decide_eq_false h6] at H1
    have HE : Hid (R = ([], false)) := by
      show _ = _
      rw [← HR.out]; refine dsV_no ?_
      unfold dsIn; rw [decide_eq_false h6]; simp
    clear e1 hW1 hR hP hI LB h6
    generalize p.length = np at *
    generalize ns.length = nn at *
    go_enter Tryz.func7, Tryz.ntmps7
    go_wp2_with fail
    rw [HW1.out]
    refine Calls.mono (H1.out _) ?_
    rintro e w2 ⟨rfl, rfl⟩
    go_wp2
    go_ret2
    exact ⟨.slice none 0 0, by rw [HE.out]; rfl, by rw [HE.out]; exact LsOk.of (OwnLn.nil _ _) rfl, N1.out⟩
/-- Dashed, by the program. -/
theorem idashed (w : World) (pa : Option Addr) (pc : Nat) (p : List Pnt) (cl : Bool) (na : Option Addr) (nc : Nat) (ns : List Int) (f : Int) (hp : p.length ≤ 1048576) (hn : ns.length ≤ 1048576) (hcap : p.length ≤ pc) (hP : Pts w pa p) (hI : Ints w na ns) :
    Calls Tryz.prog 6 #[.agg #[.slice pa p.length pc, .bool cl], .slice na ns.length nc, .int .i64 f] w fun e w' => ∃ v, e = .returned (.tuple #[v, .bool (dsV ns f p cl).2]) ∧ LsOk w' w.heap.size v (dsV ns f p cl).1 ∧ Nw w w' := by
  cases hin : dsIn ns f p with
  | false =>
    rw [dsV_no hin]
    refine Calls.mono (idashA w pa pc p cl na nc ns f hp hn hP hI hin) ?_
    rintro e w' ⟨rfl, n1⟩
    exact ⟨_, rfl, LsOk.of (OwnLn.nil _ _) rfl, n1⟩
  | true =>
    by_cases hs : sumN ns ns.length = 0
    · have e : dsV ns f p cl = ([⟨p, cl⟩], true) := by unfold dsV; rw [if_pos hin, if_pos hs]
      rw [e]
      exact idashB w pa pc p cl na nc ns f hp hn hP hI hin hs
    · exact idashC w pa pc p cl na nc ns f hp hn hP hI hcap hin hs
end Go.Proofs.YtfdjjbgcaojcnaaGreat
namespace Go.Proofs.YtfdjjbgcaojcnaaGreat
open Go.ChangeShapes Go.WideShapes Go.ChangeAt Go.RowKit
set_option linter.unusedVariables false

/-- The blocks from lo to hi are as they were. -/
def Kin (lo hi : Nat) (w w' : World) : Prop := w.heap.size ≤ w'.heap.size ∧ ∀ b, lo ≤ b → b < hi → w'.heap[b]? = w.heap[b]?
theorem Kin.refl (lo hi : Nat) (w : World) : Kin lo hi w w := ⟨Nat.le_refl _, fun _ _ _ => rfl⟩
theorem Kin.trans {lo hi : Nat} {a b c : World} (h : Kin lo hi a b) (k : Kin lo hi b c) : Kin lo hi a c := ⟨Nat.le_trans h.1 k.1, fun i h1 h2 => (k.2 i h1 h2).trans (h.2 i h1 h2)⟩
theorem Kin.nw {lo hi : Nat} {w w' : World} (k : Nw w w') (h : hi ≤ w.heap.size) : Kin lo hi w w' := ⟨Below.size k, fun b _ hb => Below.block k b (by omega)⟩
theorem Kin.ext {lo hi : Nat} {v v' : Value} {w w' : World} (k : Ext v v' w w') (h : hi ≤ w.heap.size) (hv : ∀ b, v.ownBlock = some b → b < lo ∨ hi ≤ b) : Kin lo hi w w' :=
  ⟨k.1.size, fun b h1 h2 => k.1.block b (by omega) (fun e => by have := hv b e.symm; omega)⟩
theorem Kin.set {lo hi : Nat} {w : World} {b o : Nat} (u : Value) (h : b < lo ∨ hi ≤ b) : Kin lo hi w (w.setCell ⟨b, o, none⟩ u) :=
  ⟨(set_grown (w := w) (b := b) (o := o) (u := u)).size, fun i h1 h2 => by
    rcases Nat.lt_or_ge i w.heap.size with hl | hl
    · exact (set_grown (w := w) (b := b) (o := o) (u := u)).block i hl (fun e => by injection e with e; omega)
    · rw [Array.getElem?_eq_none hl, Array.getElem?_eq_none (by simpa using hl)]⟩
theorem OwnQ.kin {T : TypeId} {w w' : World} {B hi : Nat} {v : Value} {l : List VV} (h : OwnQ T w B v l) (k : Kin B hi w w') (hh : w.heap.size ≤ hi) : OwnQ T w' B v l := by
  refine ⟨h.1, ?_⟩
  rcases h.2 with hn | ⟨g, cap, cur, h1, h2, h3, rest⟩
  · exact Or.inl hn
  · have hlt := (Array.getElem?_eq_some_iff.1 h3).1
    exact Or.inr ⟨g, cap, cur, h1, h2, by rw [k.2 g h2 (by omega)]; exact h3, rest⟩
theorem OwnLn.kin {w w' : World} {B hi : Nat} {v : Value} {it : Its} (h : OwnLn w B v it) (k : Kin B hi w w') (hh : w.heap.size ≤ hi) : OwnLn w' B v it :=
  ⟨OwnQ.kin h.own k hh, fun i hi => OwnQ.kin (h.pts i hi) k hh, h.far, h.apart⟩
end Go.Proofs.YtfdjjbgcaojcnaaGreat
namespace Go.Proofs.YtfdjjbgcaojcnaaGreat
open Go.ChangeShapes Go.WideShapes Go.ChangeAt Go.RowKit
set_option linter.unusedVariables false

theorem near_bx {q : Pnt} : nearB q = true ↔ bxP (-67108864) 67108864 (-67108864) 67108864 q := by
  unfold nearB bxP
  rw [Bool.and_eq_true, nrB_iff, nrB_iff]
  exact Iff.rfl
theorem ptAt_of_mem {l : List Pnt} {x : Pnt} (h : x ∈ l) : ∃ i, i < l.length ∧ ptAt l i = x := by
  obtain ⟨i, hi, rfl⟩ := List.getElem_of_mem h
  exact ⟨i, hi, by simp [ptAt, hi]⟩
/-- A line that can be stroked. -/
def okSt (l : LD) : Prop := 0 < l.pts.length ∧ l.pts.length ≤ 600 ∧ ∀ x, x ∈ l.pts → nearB x = true
theorem mem_many {o : List LD} {l : LD} (h : l ∈ o) : l.pts.length ≤ manyL o := by
  obtain ⟨i, hi, rfl⟩ := List.getElem_of_mem h
  have := manyL_at o i hi
  unfold lnAt at this
  rw [show o.getD i noLD = o[i] by simp [hi]] at this
  exact this
theorem dsV_good {ns : List Int} {f : Int} {p : List Pnt} (cl : Bool) (h0 : 0 < p.length) (hn : nearsB p = true) : ∀ l, l ∈ (dsV ns f p cl).1 → okSt l := by
  intro l hl
  have hbd := (dsV_bd ns f p cl).2
  have hm := mem_many hl
  refine ⟨?_, by omega, fun x hx => near_bx.2 (dsV_bx (fun a b => (szV_is a b).1) ns f p cl (fun i hi => near_bx.1 (nearsB_at hn i hi)) l hl x hx)⟩
  unfold dsV at hl
  by_cases hin : dsIn ns f p = true
  · rw [if_pos hin] at hl
    by_cases hs : sumN ns ns.length = 0
    · rw [if_pos hs] at hl
      rw [List.mem_singleton.1 hl]; exact h0
    · rw [if_neg hs] at hl
      by_cases hb : 2400 < (dash1 ns f p cl).begun ∨ 600 < manyL (dash1 ns f p cl).o
      · rw [if_pos hb] at hl; cases hl
      · rw [if_neg hb] at hl
        have := thick_dash ns f p cl l hl
        omega
  · rw [if_neg hin] at hl; cases hl
theorem lnAt_mem {o : List LD} {k : Nat} (h : k < o.length) : lnAt o k ∈ o := by
  unfold lnAt
  rw [show o.getD k noLD = o[k] by simp [h]]
  exact List.getElem_mem h
/-- The strokes of one line more. -/
theorem stK_zero {ls : List LD} {p : PD} {ns : List Int} {k : Nat} (hz : (lnAt ls k).pts.length = 0) : stK ls p ns (k + 1) = stK ls p ns k := by
  rw [stK]
  cases stK ls p ns k with
  | none => rfl
  | some o => simp only [hz, if_true]
theorem stK_no {ls : List LD} {p : PD} {ns : List Int} {k : Nat} (hz : (lnAt ls k).pts.length ≠ 0) (hd : (dsV ns p.f (lnAt ls k).pts (lnAt ls k).closed).2 = false) : stK ls p ns (k + 1) = none := by
  rw [stK]
  cases stK ls p ns k with
  | none => rfl
  | some o => simp only [hz, if_false, hd, Bool.false_eq_true]
theorem stK_yes {ls : List LD} {p : PD} {ns : List Int} {k : Nat} {o : List LD} (ho : stK ls p ns k = some o) (hz : (lnAt ls k).pts.length ≠ 0) (hd : (dsV ns p.f (lnAt ls k).pts (lnAt ls k).closed).2 = true) : stK ls p ns (k + 1) = some (o ++ strkS (dsV ns p.f (lnAt ls k).pts (lnAt ls k).closed).1 (p.w / 2) p.j p.c) := by
  rw [stK, ho]
  simp only [hz, if_false, hd, if_true]
theorem stkV_is {ls : List LD} {p : PD} {ns : List Int} (hp : penB p ns = true) (hm : manyL ls ≤ 600) (hn : nearL ls = true) (hw : p.w ≠ 0) : stkV ls p ns = match stK ls p ns ls.length with
    | none => ([], false)
    | some o => if manyL o ≤ 4800 then (o, true) else ([], false) := by
  unfold stkV
  rw [if_pos ⟨hp, hm, hn⟩, if_neg hw]
  cases stK ls p ns ls.length <;> rfl
theorem stkV_none {ls : List LD} {p : PD} {ns : List Int} (hp : penB p ns = true) (hm : manyL ls ≤ 600) (hn : nearL ls = true) (hw : p.w ≠ 0) {k : Nat} (hk : k ≤ ls.length) (h : stK ls p ns k = none) : stkV ls p ns = ([], false) := by
  rw [stkV_is hp hm hn hw]
  have := stK_none ls p ns h (ls.length - k)
  rw [show k + (ls.length - k) = ls.length by omega] at this
  rw [this]
theorem strkS_take_len (ds : List LD) (h j c : Int) (m : Nat) : (strkS (ds.take m) h j c).length ≤ 2 * manyL ds := Nat.le_trans (strkS_len _ _ _ _) (by have := manyL_le ds m; omega)
/-- Too many points already. -/
theorem stkV_many {ls : List LD} {p : PD} {ns : List Int} (hp : penB p ns = true) (hm : manyL ls ≤ 600) (hn : nearL ls = true) (hw : p.w ≠ 0) {k : Nat} (hk : k < ls.length) {o : List LD} (ho : stK ls p ns k = some o) (hz : (lnAt ls k).pts.length ≠ 0) (hd : (dsV ns p.f (lnAt ls k).pts (lnAt ls k).closed).2 = true) {m : Nat}
    (hq : 4800 < manyL (o ++ strkS ((dsV ns p.f (lnAt ls k).pts (lnAt ls k).closed).1.take m) (p.w / 2) p.j p.c)) : stkV ls p ns = ([], false) := by
  have hy := stK_yes ho hz hd
  generalize (dsV ns p.f (lnAt ls k).pts (lnAt ls k).closed).1 = ds at *
  have hsplit : strkS ds (p.w / 2) p.j p.c = strkS (ds.take m) (p.w / 2) p.j p.c ++ strkS (ds.drop m) (p.w / 2) p.j p.c := by
    unfold strkS
    rw [← List.flatMap_append, List.take_append_drop]
  have hge : ∀ o', stK ls p ns (k + 1) = some o' → 4801 ≤ manyL o' := fun o' ho' => by
    rw [hy] at ho'
    injection ho' with e
    rw [← e, hsplit, ← List.append_assoc, manyL_app']
    omega
  rw [stkV_is hp hm hn hw]
  cases hc : stK ls p ns ls.length with
  | none => rfl
  | some o' =>
    have := stK_more ls p ns hge (ls.length - (k + 1)) o' (by rw [show k + 1 + (ls.length - (k + 1)) = ls.length by omega]; exact hc)
    simp only
    rw [if_neg (by omega)]
end Go.Proofs.YtfdjjbgcaojcnaaGreat
namespace Go.Proofs.YtfdjjbgcaojcnaaGreat
open Go.ChangeShapes Go.WideShapes Go.ChangeAt Go.RowKit
set_option linter.unusedVariables false

set_option maxHeartbeats 1000000 in
theorem smanyB (w : World) (a : Option Addr) (c : Nat) (l : List LD) (hl : l.length ≤ 1048576) (hm : manyL l ≤ 100000000) (hr : Lines w a l) :
    Calls Tryz.prog 46 #[.slice a l.length c] w fun e w' => e = .returned (.int .i64 (manyL l : Int)) ∧ Kp w w' := by
  have HR : Hid (Lines w a l) := hr
  clear hr
  go_enter Tryz.func46, Tryz.ntmps46
  go_wp2
  go_loopw [3, 8] (fun x i wr => ∃ k : Nat, k ≤ l.length ∧ i = .int .i64 k ∧ x = .int .i64 (manyL (l.take k) : Int) ∧ Kp w wr) (fun _ i _ => l.length - (intOf i).toNat)
  case atStart => exact ⟨0, Nat.zero_le _, rfl, rfl, Kp.refl _⟩
  case round =>
    obtain ⟨k, hk, rfl, rfl, hw⟩ := hrel
    have HW : Hid (Kp w wr) := hw
    clear hw
    by_cases hlt : k < l.length
    · rcases (HR.out.nw HW.out.nw) with h | ⟨b, off, rfl, hb, hc⟩
      · rw [h] at hlt; simp at hlt
      obtain ⟨⟨pa, pc, q0, _⟩, q1⟩ := hc k hlt
      clear hc
      have hs := manyL_step l k hlt
      have hle := manyL_le l (k + 1)
      have HE : Hid (manyL (l.take (k + 1)) = manyL (l.take k) + (lnAt l k).pts.length) := hs
      rw [hs] at hle
      clear hs
      generalize manyL (l.take k) = m at *
      generalize (lnAt l k).pts.length = n at *
      generalize (lnAt l k).closed = cl at *
      go_wp2
      go_roundw
      case rel => exact ⟨k + 1, by omega, by go_num, by rw [HE.out]; go_num, HW.out.alloc _ _⟩
      case measure => simp [intOf]; omega
    · have e : k = l.length := by omega
      subst e
      rw [List.take_length]
      go_wp2
      go_ret
      exact ⟨rfl, HW.out⟩
/-- A line cut into dashes, by the specification. -/
theorem sl10d (w : World) (g off pc : Nat) (p : List Pnt) (cl : Bool) (na : Option Addr) (nc : Nat) (ns : List Int) (f : Int) (hin : dsIn ns f p = true) (hL : LieP w g off p) (hI : Ints w na ns) :
    Calls Tryz.prog 39 #[.agg #[.slice (some ⟨g, off, none⟩) p.length pc, .bool cl], .slice na ns.length nc, .int .i64 f] w fun e w' => ∃ v o, e = .returned (.tuple #[v, .bool (dsV ns f p cl).2]) ∧ LsOk w' w.heap.size v o ∧ ((dsV ns f p cl).2 = true → o = (dsV ns f p cl).1) ∧ Nw w w' := by
  have hin' := hin
  unfold dsIn at hin'
  simp only [Bool.and_eq_true, decide_eq_true_eq] at hin'
  obtain ⟨⟨l1, l2⟩, hne, hd⟩ := hin'
  obtain ⟨z1, z2, z3⟩ := dsh_NB hd
  by_cases hs : sumN ns ns.length = 0
  · have e : dsV ns f p cl = ([⟨p, cl⟩], true) := by unfold dsV; rw [if_pos hin, if_pos hs]
    rw [e]
    refine Calls.mono (sdashB w g off pc p cl na nc ns f (by omega) l2 z1 (fun i hi => (z3 i hi).1) hs hL hI) ?_
    rintro e w' ⟨v, rfl, o, n⟩
    exact ⟨v, _, rfl, o, fun _ => rfl, n⟩
  · have hn0 : 0 < ns.length := sum_some hs
    have hNBs : NB ns := ⟨hn0, z3⟩
    have hrp : 0 < rndN ns := by
      have := (sumN_bd z3 ns.length (Nat.le_refl _)).1
      unfold rndN
      split <;> omega
    have hall := all_both hNBs z1 (Int.emod_nonneg f (show rndN ns ≠ 0 by omega)) (Int.emod_lt_of_pos f hrp) p cl (d := dash1 ns f p cl) rfl
    have e : dsV ns f p cl = if (wk2 ns (f % rndN ns) p cl).many ≤ 600 ∧ (wk2 ns (f % rndN ns) p cl).begun ≤ 2400 then ((wk2 ns (f % rndN ns) p cl).out, true) else ([], false) := by
      rw [← hall]; unfold dsV; rw [if_pos hin, if_neg hs]
    refine Calls.mono (sdashC w g off pc p cl na nc ns f (by omega) l2 hne z1 hNBs z2.1 z2.2 hs hL hI) ?_
    rintro e1 w' ⟨v, rfl, o, n⟩
    rw [e]
    by_cases hT : (wk2 ns (f % rndN ns) p cl).many ≤ 600 ∧ (wk2 ns (f % rndN ns) p cl).begun ≤ 2400
    · rw [if_pos hT, decide_eq_true hT]
      exact ⟨v, _, rfl, o, fun _ => rfl, n⟩
    · rw [if_neg hT, decide_eq_false hT]
      exact ⟨v, _, rfl, o, fun h => (by cases h), n⟩
theorem psl {w w' : World} {a : Option Addr} {l : List Pnt} (h : Pts w a l) (k : Nw w w') : Pts w' a l := Pts.nw h k
theorem penB_w {p : PD} {ns : List Int} (h : penB p ns = true) : (0 ≤ p.w ∧ p.w ≤ 4194304) ∧ dshB ns p.f = true := by
  unfold penB at h
  simp only [Bool.and_eq_true, decide_eq_true_eq] at h
  exact ⟨h.1, h.2.2.2⟩
/-- What StrokeLines' inner function answers. -/
def EndS (w w' : World) (e : Ending) (RV : List LD × Bool) : Prop := ∃ v o, e = .returned (.tuple #[v, .bool RV.2]) ∧ LsOk w' w.heap.size v o ∧ (RV.2 = true → o = RV.1) ∧ Nw w w'
set_option maxRecDepth 100000 in
set_option maxHeartbeats 16000000 in
theorem sstroke (w : World) (a : Option Addr) (c : Nat) (ls : List LD) (p : PD) (na : Option Addr) (nc : Nat) (ns : List Int) (hl : ls.length ≤ 1048576) (hpen : penB p ns = true) (hm : manyL ls ≤ 600) (hnr : nearL ls = true) (hw0 : p.w ≠ 0) (hr : Lines w a ls) (hI : Ints w na ns) :
    Calls Tryz.prog 47 #[.slice a ls.length c, penV p (.slice na ns.length nc)] w fun e w' => EndS w w' e (stkV ls p ns) := by
  obtain ⟨⟨pw0, pw1⟩, hdsh⟩ := penB_w hpen
  have HZ : Hid (∀ k, (lnAt ls k).pts.length = 0 → stK ls p ns (k + 1) = stK ls p ns k) := fun k h => stK_zero h
  have HNO : Hid (∀ k, k < ls.length → (lnAt ls k).pts.length ≠ 0 → (dsV ns p.f (lnAt ls k).pts (lnAt ls k).closed).2 = false → stkV ls p ns = ([], false)) := fun k hk h1 h2 => stkV_none hpen hm hnr hw0 (show k + 1 ≤ ls.length by omega) (stK_no h1 h2)
  have HYES : Hid (∀ k o, stK ls p ns k = some o → (lnAt ls k).pts.length ≠ 0 → (dsV ns p.f (lnAt ls k).pts (lnAt ls k).closed).2 = true → stK ls p ns (k + 1) = some (o ++ strkS (dsV ns p.f (lnAt ls k).pts (lnAt ls k).closed).1 (p.w / 2) p.j p.c)) := fun k o h1 h2 h3 => stK_yes h1 h2 h3
  have HBD : Hid (∀ k o, k ≤ ls.length → stK ls p ns k = some o → o.length ≤ 720000 ∧ manyL o ≤ 24000000) := fun k o hk h => by
    obtain ⟨b1, b2⟩ := stK_bd ls p ns k o hk h
    have b3 := manyL_le ls k
    have b4 := b2.many
    exact ⟨by omega, by omega⟩
  have HEND : Hid (∀ o, stK ls p ns ls.length = some o → (stkV ls p ns).2 = decide (manyL o ≤ 4800) ∧ ((stkV ls p ns).2 = true → o = (stkV ls p ns).1)) := fun o h => by
    by_cases h4 : manyL o ≤ 4800
    · have e : stkV ls p ns = (o, true) := by rw [stkV_is hpen hm hnr hw0, h]; simp only [if_pos h4]
      rw [e]; exact ⟨(decide_eq_true h4).symm, fun _ => rfl⟩
    · have e : stkV ls p ns = ([], false) := by rw [stkV_is hpen hm hnr hw0, h]; simp only [if_neg h4]
      rw [e]; exact ⟨(decide_eq_false h4).symm, fun h => by cases h⟩
  have HIN : Hid (∀ k, k < ls.length → (lnAt ls k).pts.length ≠ 0 → dsIn ns p.f (lnAt ls k).pts = true ∧ ∀ l, l ∈ (dsV ns p.f (lnAt ls k).pts (lnAt ls k).closed).1 → okSt l) := fun k hk h => by
    have h1 := manyL_at ls k hk
    have h2 := nearL_at hnr k hk
    refine ⟨?_, dsV_good _ (by omega) h2⟩
    unfold dsIn
    rw [h2, hdsh, decide_eq_true (by omega)]; rfl
  have HDL : Hid (∀ k, (dsV ns p.f (lnAt ls k).pts (lnAt ls k).closed).1.length ≤ 1048576 ∧ manyL (dsV ns p.f (lnAt ls k).pts (lnAt ls k).closed).1 ≤ 600) := fun k => dsV_bd _ _ _ _
  obtain ⟨SK, hSK⟩ : ∃ SK, stK ls p ns = SK := ⟨_, rfl⟩
  have HS0 : Hid (SK 0 = some []) := by show _ = _; rw [← hSK]; rfl
  rw [hSK] at HZ HYES HBD HEND
  obtain ⟨RV, hRV⟩ : ∃ RV, stkV ls p ns = RV := ⟨_, rfl⟩
  rw [hRV] at HNO HEND ⊢
  clear hSK hRV
  have HR : Hid (Lines w a ls) := hr
  have HI : Hid (Ints w na ns) := hI
  have HPW : Hid (0 ≤ p.w ∧ p.w ≤ 4194304) := ⟨pw0, pw1⟩
  clear hr hI hpen hdsh hnr
  obtain ⟨pw, pj, pc, pf⟩ := p
  simp only [penV] at *
  have HLN : Hid (∀ (w : World) (a : Option Addr) (c : Nat) (l : LD), okSt l → Pts w a l.pts → _) := fun w a c l hk hP => sline w a c l ⟨pw, pj, pc, pf⟩ (.slice na ns.length nc) ⟨_, _, _, rfl⟩ hk.1 hk.2.1 hk.2.2 HPW.out.1 HPW.out.2 hP
  simp only at HLN
  generalize hh : pw / 2 = h at *
  clear hh
  have d0 : (pw == 0) = false := by simp [hw0]
  obtain ⟨W, hW⟩ : ∃ W, w.alloc (.cells #[.int .i64 pw, .int .i64 pj, .int .i64 pc, .slice na ns.length nc, .int .i64 pf] 36) = W := ⟨_, rfl⟩
  obtain ⟨bp, hbp⟩ : ∃ bp, w.heap.size = bp := ⟨_, rfl⟩
  have y0 : W.cell? ⟨bp, 0, none⟩ = some (.int .i64 pw) := by rw [← hW, ← hbp]; simp
  have y1 : W.cell? ⟨bp, 1, none⟩ = some (.int .i64 pj) := by rw [← hW, ← hbp]; simp
  have y2 : W.cell? ⟨bp, 2, none⟩ = some (.int .i64 pc) := by rw [← hW, ← hbp]; simp
  have y3 : W.cell? ⟨bp, 3, none⟩ = some (.slice na ns.length nc) := by rw [← hW, ← hbp]; simp
  have y4 : W.cell? ⟨bp, 4, none⟩ = some (.int .i64 pf) := by rw [← hW, ← hbp]; simp
  have HPB : Hid (∀ w', Nw W w' → (w'.cell? ⟨bp, 0, none⟩ = some (.int .i64 pw) ∧ w'.cell? ⟨bp, 1, none⟩ = some (.int .i64 pj) ∧ w'.cell? ⟨bp, 2, none⟩ = some (.int .i64 pc) ∧ w'.cell? ⟨bp, 3, none⟩ = some (.slice na ns.length nc) ∧ w'.cell? ⟨bp, 4, none⟩ = some (.int .i64 pf))) := fun w' k => ⟨nw_at k y0, nw_at k y1, nw_at k y2, nw_at k y3, nw_at k y4⟩
  have NW : Hid (Nw w W) := by show Nw _ _; rw [← hW]; exact (Below.refl _ _).alloc (Nat.le_refl _) _
  have HBP : Hid (w.heap.size = bp) := hbp
  have HBW : Hid (bp < W.heap.size) := World.block_lt_of_cell? W ⟨bp, 0, none⟩ y0
  have HW : Hid (_ = W) := hW
  clear hW hw0 y1 y2 y3 y4
  obtain ⟨nn, hnn⟩ : ∃ nn, ns.length = nn := ⟨_, rfl⟩
  have HNN : Hid (ns.length = nn) := hnn
  rw [hnn] at HPB HLN HW ⊢
  clear hnn
  obtain ⟨n, hn⟩ : ∃ n, ls.length = n := ⟨_, rfl⟩
  have HN : Hid (ls.length = n) := hn
  rw [hn] at HNO HBD HEND HIN hl ⊢
  clear hn
  go_enter Tryz.func47, Tryz.ntmps47
  go_upto_region 2 with fail
  rw [HW.out]
  go_wp2
  clear y0
  go_loopw [18, 6] (fun i v wr => ∃ (k : Nat) (it : Its), k ≤ n ∧ i = .int .i64 (k : Int) ∧ OwnLn wr W.heap.size v it ∧ SK k = some (it.map (·.2)) ∧ Nw W wr) (fun i _ _ => n - (intOf i).toNat)
  case atStart => exact ⟨0, [], Nat.zero_le _, rfl, OwnLn.nil _ _, HS0.out, Below.refl _ _⟩
  case round =>
    obtain ⟨k, it, hk, rfl, ho, he, hw⟩ := hrel
    have HE : Hid (SK k = some (it.map (·.2))) := he
    have HO : Hid (OwnLn wr W.heap.size _ it) := ho
    have HWr : Hid (Nw W wr) := hw
    have hbd := HBD.out k _ hk he
    rw [List.length_map] at hbd
    have hil : it.length ≤ 720000 := hbd.1
    have HIM : Hid (manyL (it.map (·.2)) ≤ 24000000) := hbd.2
    obtain ⟨va, vn, vc, hv⟩ := OwnQ.slice ho.own
    subst hv
    clear ho hw he hbd
    by_cases hlt : k < n
    · have d1 : decide ((k : Int) < (n : Int)) = true := by simp; omega
      rcases (Lines.nw HR.out (Nw.trans NW.out HWr.out)) with h0 | ⟨b, off, rfl, hb, hc⟩
      · have := HN.out; rw [h0] at this; simp at this; omega
      obtain ⟨⟨pa, pcc, q0, hP⟩, q1⟩ := hc k (by rw [HN.out]; exact hlt)
      have HPk : Hid (Pts wr pa (lnAt ls k).pts) := hP
      have HZk := HZ.out k
      have HNOk : Hid _ := HNO.out k hlt
      have HYk : Hid _ := HYES.out k
      have HINk : Hid _ := HIN.out k hlt
      have HDLk := HDL.out k
      clear hc hP HZ HNO HYES HIN HDL
      generalize lnAt ls k = ll at *
      obtain ⟨pts, cl⟩ := ll
      simp only at q0 q1 HPk HZk HNOk HYk HINk HDLk
      by_cases hz : pts.length = 0
      · have HZZ : Hid (SK (k + 1) = SK k) := HZk hz
        rw [hz] at q0
        clear HZk
        go_wp2
        go_roundw
        case rel => exact ⟨k + 1, it, hlt, by go_num, OwnLn.nw HO.out (Kp.nw ((Kp.refl wr).alloc _ _)), by rw [HZZ.out]; exact HE.out, Nw.trans HWr.out (Kp.nw ((Kp.refl wr).alloc _ _))⟩
        case measure => simp [intOf]; omega
      · obtain ⟨gp, op, hpa, hlie⟩ := Pts.lie HPk.out (by omega)
        subst hpa
        obtain ⟨hin, hok⟩ := HINk.out hz
        obtain ⟨W1, hW1⟩ : ∃ W1, wr.alloc (.cells #[.slice (some ⟨gp, op, none⟩) pts.length pcc, .bool cl] 25) = W1 := ⟨_, rfl⟩
        have n1 : Nw wr W1 := by rw [← hW1]; exact Kp.nw ((Kp.refl wr).alloc _ _)
        have HD : Hid _ := sl10d W1 gp op pcc pts cl na nc ns pf hin (LieP.nw hlie n1) (Ints.nw HI.out (Nw.trans NW.out (Nw.trans HWr.out n1)))
        have d2 : ((pts.length : Int) == 0) = false := beq_eq_false_iff_ne.2 (by omega)
        obtain ⟨x0, x1, x2, x3, x4⟩ := HPB.out wr HWr.out
        have hbpw : bp < wr.heap.size := World.block_lt_of_cell? wr ⟨bp, 0, none⟩ x0
        have HOK : Hid _ := hok
        have HNZ : Hid (¬ pts.length = 0) := hz
        have HW1 : Hid (_ = W1) := hW1
        have N1 : Hid (Nw wr W1) := n1
        rw [HNN.out] at HD
        clear hin hok hlie hW1 n1 HINk HPk HZk
        cases hds : (dsV ns pf pts cl).2 with
        | false =>
          have HNN2 : Hid (RV = ([], false)) := HNOk.out HNZ.out hds
          rw [hds] at HD
          clear hds hz
          generalize pts.length = np at *
          go_wp2_with fail
          rw [HW1.out]
          refine Calls.mono HD.out ?_
          rintro e w2 ⟨v2, o2, rfl, h2, _, n2⟩
          have N2 : Hid (Nw w w2) := Nw.trans NW.out (Nw.trans HWr.out (Nw.trans N1.out n2))
          clear h2 n2
          go_wp2
          go_ret2
          rw [HNN2.out]
          exact ⟨.slice none 0 0, [], rfl, LsOk.of (OwnLn.nil _ _) rfl, (fun h => by cases h), N2.out⟩
        | true =>
          rw [hds] at HD
          have HSK : Hid _ := HYk.out _ HE.out HNZ.out hds
          generalize (dsV ns pf pts cl).1 = ds at *
          clear hds hz HNOk HYk
          generalize pts.length = np at *
          obtain ⟨wo, hwo⟩ : ∃ x, x = wr := ⟨_, rfl⟩
          subst hwo
          go_wp2_with fail
          rw [HW1.out]
          refine Calls.mono HD.out ?_
          rintro e w2 ⟨v2, o2, rfl, ⟨itd, od, ed⟩, hod, n2⟩
          have hed : itd.map (·.2) = ds := ed.trans (hod (by first | rfl | trivial | assumption))
          obtain ⟨da, dc, hv2, _⟩ := OwnLn.lines od
          rw [hed] at hv2
          have OD : Hid (OwnLn w2 W1.heap.size v2 itd) := od
          have HED : Hid (itd.map (·.2) = ds) := hed
          have NO2 : Hid (Nw wo w2) := Nw.trans N1.out n2
          have N2 : Hid (Nw W w2) := Nw.trans HWr.out NO2.out
          have S12 : Hid (wo.heap.size ≤ W1.heap.size ∧ W1.heap.size ≤ w2.heap.size) := ⟨Below.size N1.out, Below.size n2⟩
          have HV2 : Hid (v2 = .slice da ds.length dc) := hv2
          obtain ⟨nd, hnd⟩ : ∃ nd, ds.length = nd := ⟨_, rfl⟩
          have HND : Hid (ds.length = nd) := hnd
          rw [hnd] at hv2 HDLk
          subst hv2
          clear od ed hod n2 hed hnd x0 x1 x2 x3 x4 HD q0 q1
          go_wp2
          go_loopw [39, 6] (fun i v wr => ∃ (m : Nat) (it' : Its), m ≤ nd ∧ i = .int .i64 (m : Int) ∧ OwnLn wr W.heap.size v it' ∧ it'.map (·.2) = it.map (·.2) ++ strkS (ds.take m) h pj pc ∧ Nw W wr ∧ Kin W1.heap.size w2.heap.size w2 wr ∧ (∀ b, v.ownBlock = some b → b < W1.heap.size ∨ w2.heap.size ≤ b)) (fun i _ _ => nd - (intOf i).toNat)
          case atStart =>
            refine ⟨0, it, Nat.zero_le _, rfl, OwnLn.nw HO.out NO2.out, by simp [strkS], N2.out, Kin.refl _ _ _, fun b hb => Or.inl ?_⟩
            have h1 := (OwnQ.lt HO.out.own b hb).2
            have h2 := S12.out.1
            omega
          case round =>
            obtain ⟨m, it', hm', rfl, ho', he', hw', hkin, hbl⟩ := hrel
            have HE' : Hid _ := he'
            have HO' : Hid (OwnLn wr W.heap.size _ it') := ho'
            have HW' : Hid (Nw W wr) := hw'
            have HK' : Hid (Kin W1.heap.size w2.heap.size w2 wr) := hkin
            have HBL' : Hid _ := hbl
            obtain ⟨ua, un, uc, hu⟩ := OwnQ.slice ho'.own
            subst hu
            clear ho' he' hw' hkin hbl
            by_cases hmlt : m < nd
            · have d3 : decide ((m : Int) < (nd : Int)) = true := by simp; omega
              have odk := OwnLn.kin OD.out HK'.out (Nat.le_refl _)
              obtain ⟨da', dc', hda, hLn⟩ := OwnLn.lines odk
              rw [HED.out] at hda hLn
              have e0 : da = da' := by injection hda
              rw [← e0] at hLn
              clear hda e0
              rcases hLn with h0 | ⟨b2, off2, hda2, hb2, hc2⟩
              · have := HND.out; rw [h0] at this; simp at this; omega
              subst hda2
              obtain ⟨⟨pa2, pc2, r0, hP2⟩, r1⟩ := hc2 m (by rw [HND.out]; exact hmlt)
              have hok2 := HOK.out (lnAt ds m) (lnAt_mem (by rw [HND.out]; exact hmlt))
              have HSS : Hid (strkS (ds.take (m + 1)) h pj pc = strkS (ds.take m) h pj pc ++ strkL (lnAt ds m) h pj pc) := strkS_succ ds h pj pc m (by rw [HND.out]; exact hmlt)
              have hll : it'.length ≤ 730000 := by
                have e1 := congrArg List.length HE'.out
                rw [List.length_map, List.length_append, List.length_map] at e1
                have e2 := strkS_take_len ds h pj pc m
                have e3 := HDLk.2
                omega
              have hsl := strkL_len (lnAt ds m) h pj pc
              have hs6 := hok2.2.1
              obtain ⟨x0, x1, x2, x3, x4⟩ := HPB.out wr HW'.out
              have hbpw2 : bp < wr.heap.size := World.block_lt_of_cell? wr ⟨bp, 0, none⟩ x0
              generalize lnAt ds m = dl at *
              obtain ⟨dpts, dcl⟩ := dl
              simp only at r0 r1 hP2 hok2 hsl hs6
              obtain ⟨W3, hW3⟩ : ∃ W3, wr.alloc (.cells #[.slice pa2 dpts.length pc2, .bool dcl] 25) = W3 := ⟨_, rfl⟩
              have n3 : Nw wr W3 := by rw [← hW3]; exact Kp.nw ((Kp.refl wr).alloc _ _)
              have HLL : Hid _ := HLN.out W3 pa2 pc2 ⟨dpts, dcl⟩ hok2 (Pts.nw hP2 n3)
              simp only at HLL
              have N3 : Hid (Nw wr W3) := n3
              have HSL : Hid ((strkL ⟨dpts, dcl⟩ h pj pc).length ≤ 1200) := by show _ ≤ _; omega
              have HLT : Hid (it'.length ≤ 730000) := hll
              have HW3 : Hid (_ = W3) := hW3
              generalize strkL ⟨dpts, dcl⟩ h pj pc = ST at *
              clear hP2 hok2 hsl hs6 hc2 odk n3 hW3 hll
              generalize dpts.length = dn at *
              go_wp2_with fail
              rw [HW3.out]
              refine Calls.mono HLL.out ?_
              rintro e w4 ⟨v4, rfl, ⟨it4, o4, e4⟩, n4⟩
              obtain ⟨ga, gn, gc, hv4⟩ := OwnQ.slice o4.own
              subst hv4
              have O4 : Hid (OwnLn w4 W3.heap.size (.slice ga gn gc) it4) := o4
              have E4 : Hid (it4.map (·.2) = ST) := e4
              have N4 : Hid (Nw wr w4) := Nw.trans N3.out n4
              have L4 : Hid (it4.length ≤ 1200) := by show _ ≤ _; have := congrArg List.length e4; rw [List.length_map] at this; have := HSL.out; omega
              have S3 : Hid (wr.heap.size ≤ W3.heap.size) := Below.size N3.out
              clear o4 e4 n4 r0 r1 x0 x1 x2 x3 x4 HLL
              go_wp2_with (at_builtin; (refine wpl_qs 25 29 29 (.slice none 0 0) (.bool false) 32 under_lns under_lns info_line (by decide) rfl w4 rfl (.tmp 43) (.tmp 46) rfl W.heap.size W3.heap.size (.slice ua un uc) (.slice ga gn gc) (vLn it') (vLn it4) rfl rfl (OwnQ.nw HO'.out.own N4.out) O4.out.own O4.out.its.one ?hl ?hB ?_))
              case hl => rw [vLn_len, vLn_len]; have h1 := HLT.out; have h2 := L4.out; omega
              case hB => exact Nat.le_trans (Below.size HW'.out) (Below.size N4.out)
              intro v' w5 h2 h3
              rw [← vLn_append] at h2
              have O5 : Hid (OwnLn w5 W.heap.size v' (it' ++ it4)) := OwnLn.puts (u := .slice none 0 0) HO'.out N4.out (Below.size HW'.out) (ItsOk.base O4.out.its S3.out) h2 h3
              have N5 : Hid (Nw W w5) := Below.trans (Nw.trans HW'.out N4.out) (Ext.below h3 (fun g hg => (OwnQ.lt HO'.out.own g hg).1) (Nat.le_trans (Below.size HW'.out) (Below.size N4.out)))
              have s24 : w2.heap.size ≤ w4.heap.size := Nat.le_trans HK'.out.1 (Below.size N4.out)
              have K5 : Hid (Kin W1.heap.size w2.heap.size w2 w5) := Kin.trans HK'.out (Kin.trans (Kin.nw N4.out HK'.out.1) (Kin.ext h3 s24 HBL'.out))
              have B5 : Hid (∀ b, v'.ownBlock = some b → b < W1.heap.size ∨ w2.heap.size ≤ b) := fun b hb => by
                rcases h3.2 with h4 | ⟨g, h4, h5⟩
                · rw [h4] at hb; exact HBL'.out b hb
                · rw [h4] at hb; injection hb with hb; omega
              obtain ⟨ka, kn, kc, hk5⟩ := OwnQ.slice h2
              subst hk5
              clear h2 h3 s24
              go_wp2
              go_roundw
              case rel => exact ⟨m + 1, _, hmlt, by go_num, O5.out, by rw [List.map_append, HE'.out, E4.out, HSS.out, List.append_assoc], N5.out, K5.out, B5.out⟩
              case measure => simp [intOf]; omega
            · obtain rfl : m = nd := by omega
              have d3 : decide ((m : Int) < (m : Int)) = false := by simp
              have HTK : Hid (ds.take m = ds) := by show _ = _; rw [← HND.out, List.take_length]
              go_wp2
              go_roundw
              case rel => exact ⟨k + 1, it', hlt, by go_num, HO'.out, by rw [HSK.out, HE'.out, HTK.out], HW'.out⟩
              case measure => simp [intOf]; omega
    · obtain rfl : k = n := by omega
      have d1 : decide ((k : Int) < (k : Int)) = false := by simp
      obtain ⟨e1, e2⟩ := HEND.out _ HE.out
      obtain ⟨va', vc', hva, hLn⟩ := OwnLn.lines HO.out
      injection hva with h1 h2 h3
      subst h1 h2 h3
      have HMN : Hid _ := smanyB wr va vc (it.map (·.2)) (by rw [List.length_map]; omega) (by have := HIM.out; omega) hLn
      have HE1 : Hid _ := e1
      have HE2 : Hid _ := e2
      clear e1 e2 hLn
      generalize hMM : it.map (·.2) = MM at *
      have HMM : Hid (it.map (·.2) = MM) := hMM
      clear hMM
      by_cases h4 : manyL MM ≤ 4800
      · have d4 : decide ((manyL MM : Int) ≤ 4800) = true := by simp; omega
        have HR2 : Hid (RV.2 = true) := by show _ = _; rw [HE1.out, decide_eq_true h4]
        clear h4
        generalize manyL MM = mm at *
        generalize MM.length = ml at *
        go_wp2_with fail
        refine Calls.mono HMN.out ?_
        rintro e w7 ⟨rfl, k7⟩
        have K7 : Hid (Nw wr w7) := Kp.nw k7
        clear k7
        go_wp2
        go_ret2
        unfold EndS
        exact ⟨_, MM, by rw [HR2.out]; rfl, LsOk.of (OwnLn.base (OwnLn.nw HO.out K7.out) (Below.size NW.out)) HMM.out, HE2.out, Nw.trans NW.out (Nw.trans HWr.out K7.out)⟩
      · have d4 : decide ((manyL MM : Int) ≤ 4800) = false := by simp; omega
        have HR2 : Hid (RV.2 = false) := by show _ = _; rw [HE1.out, decide_eq_false h4]
        clear h4
        generalize manyL MM = mm at *
        generalize MM.length = ml at *
        go_wp2_with fail
        refine Calls.mono HMN.out ?_
        rintro e w7 ⟨rfl, k7⟩
        have K7 : Hid (Nw wr w7) := Kp.nw k7
        clear k7
        go_wp2
        go_ret2
        unfold EndS
        exact ⟨_, MM, by rw [HR2.out]; rfl, LsOk.of (OwnLn.base (OwnLn.nw HO.out K7.out) (Below.size NW.out)) HMM.out, HE2.out, Nw.trans NW.out (Nw.trans HWr.out K7.out)⟩
end Go.Proofs.YtfdjjbgcaojcnaaGreat
