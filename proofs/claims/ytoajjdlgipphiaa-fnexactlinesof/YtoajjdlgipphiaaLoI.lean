/-
  LinesOf, by the program; each theorem names its conditions.
-/
import Derived.Test.YtoajjdlgipphiaaLoD
namespace Go.Proofs.Ytoajjdlgipphiaa
open Go.ChangeShapes Go.WideShapes Go.ChangeAt Go.RowKit
set_option linter.unusedVariables false

/-- What LinesOf answers. -/
def lsV (l : List SD) : List LD := if stsB l then lnsP l else []
/-- Lines of an answer: in memory from B on. -/
def LsOk (w : World) (B : Nat) (v : Value) (o : List LD) : Prop := ∃ it, OwnLn w B v it ∧ it.map (·.2) = o
theorem LsOk.nw {w w' : World} {B : Nat} {v : Value} {o : List LD} (h : LsOk w B v o) (k : Nw w w') : LsOk w' B v o := by
  obtain ⟨it, h1, h2⟩ := h
  exact ⟨it, h1.nw k, h2⟩
theorem LsOk.of {w : World} {B : Nat} {v : Value} {it : Its} {o : List LD} (h : OwnLn w B v it) (e : it.map (·.2) = o) : LsOk w B v o := ⟨it, h, e⟩
theorem stsB_all {l : List SD} (h : stsB l = true) : l.length ≤ 60 ∧ ∀ i, i < l.length → stOk l i = true := by
  unfold stsB at h
  rw [Bool.and_eq_true, decide_eq_true_eq, List.all_eq_true] at h
  exact ⟨h.1, fun i hi => h.2 i (List.mem_range.2 hi)⟩
theorem idraw_any (w0 w : World) (bx : Nat) (v u : Value) (it : Its) (p : List Pnt) (l : List SD) (k : Nat) (na : Option Addr) (nc : Nat) (h0 : Nw w0 w) (hb0 : w0.heap.size ≤ bx) (hk : k < l.length) (hl : l.length ≤ 60) (hok : ∀ i, i < l.length → stOk l i = true) (h : DW bx w v it u p) (ho : it.map (·.2) = (stS l k).o) (hp : p = (stS l k).p) (hr : Ints w0 na (stAt l k).ns) :
    Calls Try.prog 48 #[.pointer (some ⟨bx, 0, none⟩), .agg #[.int .i64 (stAt l k).kind, .slice na (stAt l k).ns.length nc]] w fun e w' => e = .returned (.tuple #[]) ∧ DrOk bx w w' (stS l (k + 1)).o (stS l (k + 1)).p := by
  obtain ⟨h1, h2, h3, h4⟩ := stS_bd hok k (by omega)
  obtain ⟨g1, g2⟩ := stS_good hok k (by omega)
  obtain ⟨k1, k2, k3, k4⟩ := stOk_some (hok k hk)
  have hlen : it.length ≤ 1000 := by
    have := congrArg List.length ho
    rw [List.length_map] at this
    omega
  have hpl : p.length ≤ 100000 := by rw [hp]; omega
  have e : stS l (k + 1) = drS (stS l k) (stAt l k) := rfl
  have ed : stS l k = ⟨it.map (·.2), p⟩ := by rw [ho, hp]
  rw [e, ed]
  have hp0 : k ≠ 0 → 0 < p.length := fun hk0 => by rw [hp]; exact h4 (by omega)
  have hgp : ptsB p = true := by rw [hp]; exact g2
  generalize stAt l k = s at *
  obtain ⟨kd, ns⟩ := s
  simp only at k1 k2 k3 k4 hr ⊢
  rcases kd_cases k1 with e | e | e | e
  · subst e
    have : ns.length = 2 := by unfold kdN at k2; rw [if_pos rfl] at k2; omega
    exact idraw1 w0 w bx v u it p ns na nc h0 hb0 h hlen hpl hr this
  · subst e
    have : ns.length = 2 := by unfold kdN at k2; rw [if_neg (by omega), if_pos rfl] at k2; omega
    exact idraw2 w0 w bx v u it p ns na nc h0 hb0 h hlen hpl hr this
  · subst e
    have hn : ns.length = 6 := by unfold kdN at k2; rw [if_neg (by omega), if_neg (by omega), if_pos rfl] at k2; omega
    have hk0 : k ≠ 0 := by
      rcases k4 with h | h
      · exact h
      · omega
    have hg : ptsB (lastP p :: prs ns) = true := by
      have q1 := ptsB_at hgp (p.length - 1) (by have := hp0 hk0; omega)
      have q2 := prs_good ns k3
      unfold ptsB at q2 ⊢
      simp only [List.all_cons, Bool.and_eq_true]
      exact ⟨q1, q2⟩
    exact idraw3 w0 w bx v u it p ns na nc h0 hb0 h hlen hpl hr hn (hp0 hk0) hg
  · subst e
    have hk0 : k ≠ 0 := by
      rcases k4 with h | h
      · exact h
      · omega
    exact idraw4 w0 w bx v u it p ns na nc h0 hb0 h hlen hpl hr (hp0 hk0)
theorem OwnLn.lines {w : World} {B : Nat} {v : Value} {it : Its} (h : OwnLn w B v it) : ∃ a c, v = .slice a (it.map (·.2)).length c ∧ Lines w a (it.map (·.2)) := by
  obtain ⟨a, c, e, h2⟩ := h.row
  exact ⟨a, c, e, h2⟩
set_option maxRecDepth 100000 in
set_option maxHeartbeats 8000000 in
theorem ilines (w : World) (a : Option Addr) (c : Nat) (l : List SD) (hl : l.length ≤ 1048576) (hns : ∀ i, i < l.length → (stAt l i).ns.length ≤ 1048576) (hr : Steps w a l) :
    Calls Try.prog 20 #[.slice a l.length c] w fun e w' => ∃ v, e = .returned (.tuple #[v, .bool (stsB l)]) ∧ LsOk w' w.heap.size v (lsV l) ∧ Nw w w' := by
  have H1 : Hid _ := igoodSteps w a c l hl hns hr
  have HR : Hid (Steps w a l) := hr
  clear hr hns
  unfold lsV
  cases b : stsB l with
  | false =>
    rw [b] at H1
    simp only [Bool.false_eq_true, if_false]
    clear b
    generalize l.length = n at *
    go_enter Try.func20, Try.ntmps20
    go_wp2_with fail
    refine Calls.mono H1.out ?_
    rintro e w1 ⟨rfl, k1⟩
    have K1 : Hid (Nw w w1) := k1.nw
    clear k1
    go_wp2
    go_ret2
    exact ⟨_, rfl, LsOk.of (OwnLn.nil _ _) rfl, K1.out⟩
  | true =>
    rw [b] at H1
    simp only [if_true]
    obtain ⟨hl60, hok⟩ := stsB_all b
    have HOK : Hid _ := hok
    have HM : Hid (manyL (lnsP l) ≤ 600) := lns_many hok hl60
    obtain ⟨n, hn⟩ : ∃ n, l.length = n := ⟨_, rfl⟩
    have HN : Hid (l.length = n) := hn
    rw [hn] at H1 hl60 ⊢
    clear b hok hn hl
    go_enter Try.func20, Try.ntmps20
    go_wp2_with fail
    refine Calls.mono H1.out ?_
    rintro e w1 ⟨rfl, k1⟩
    have N1 : Hid (Nw w w1) := k1.nw
    clear k1
    obtain ⟨W, hW⟩ : ∃ W, w1.alloc (.cells #[.slice none 0 0, .slice none 0 0] 79) = W := ⟨_, rfl⟩
    have DN : Hid (DW w1.heap.size W (.slice none 0 0) [] (.slice none 0 0) []) := by show DW _ _ _ _ _ _; rw [← hW]; exact DW.new w1 _
    have N1W : Hid (Nw w1 W) := by show Nw _ _; rw [← hW]; exact (Below.refl _ _).alloc (Nat.le_refl _) _
    have HW : Hid (_ = W) := hW
    clear hW
    go_wp2
    rw [HW.out]
    go_loopw [12] (fun i wr => ∃ k : Nat, k ≤ n ∧ i = .int .i64 (k : Int) ∧ (∃ v it u, DW w1.heap.size wr v it u (stS l k).p ∧ it.map (·.2) = (stS l k).o) ∧ Below w1.heap.size w1 wr) (fun i _ => n - (intOf i).toNat)
    case atStart => exact ⟨0, Nat.zero_le _, rfl, ⟨_, _, _, DN.out, rfl⟩, N1W.out⟩
    case round =>
      obtain ⟨k, hk, rfl, ⟨v, it, u, hd, ho⟩, hw⟩ := hrel
      have HD : Hid (DW w1.heap.size wr v it u (stS l k).p) := hd
      have HO : Hid (it.map (·.2) = (stS l k).o) := ho
      have HWR : Hid (Nw w1 wr) := hw
      clear hd ho hw
      by_cases hlt : k < n
      · rcases Steps.nw HR.out (Nw.trans N1.out HWR.out) with h | ⟨b, off, rfl, hb, hc⟩
        · have := HN.out; rw [h] at this; simp at this; omega
        obtain ⟨q0, na, nc, q1, qi⟩ := hc k (by rw [HN.out]; exact hlt)
        clear hc
        have HI1 : Hid (Ints w1 na (stAt l k).ns) := by
          rcases Steps.nw HR.out N1.out with h | ⟨b', off', e', hb', hc'⟩
          · have := HN.out; rw [h] at this; simp at this; omega
          · injection e' with e'; injection e' with e1 e2
            subst e1 e2
            obtain ⟨q0', na', nc', q1', qi'⟩ := hc' k (by rw [HN.out]; exact hlt)
            have := ((bcell HWR.out).1 _ _ hb').trans q1'
            rw [q1] at this
            injection this with this; injection this with t1 t2 t3
            subst t1
            exact qi'
        obtain ⟨W2, hW2⟩ : ∃ W2, wr.alloc (.cells #[.int .i64 (stAt l k).kind, .slice na (stAt l k).ns.length nc] 76) = W2 := ⟨_, rfl⟩
        have N2 : Hid (Nw wr W2) := by show Nw _ _; rw [← hW2]; exact (Below.refl _ _).alloc (Nat.le_refl _) _
        have HDR : Hid _ := idraw_any w1 W2 w1.heap.size v u it (stS l k).p l k na nc (Nw.trans HWR.out N2.out) (Nat.le_refl _) (by rw [HN.out]; exact hlt) (by rw [HN.out]; exact hl60) HOK.out (DW.nw HD.out N2.out) HO.out rfl HI1.out
        have HW2 : Hid (_ = W2) := hW2
        clear hW2 qi
        generalize (stAt l k).kind = kd at *
        generalize (stAt l k).ns.length = nl at *
        go_wp2_with fail
        rw [HW2.out]
        refine Calls.mono HDR.out ?_
        rintro e w4 ⟨rfl, v', it', u', d1, d2, d3⟩
        have H4 : Hid (∃ v it u, DW w1.heap.size w4 v it u (stS l (k + 1)).p ∧ it.map (·.2) = (stS l (k + 1)).o) := ⟨v', it', u', d1, d2⟩
        have B4 : Hid (Below w1.heap.size w1 w4) := Below.trans (Nw.trans HWR.out N2.out) d3
        clear d1 d2 d3 q0 q1
        go_wp2
        go_roundw
        case rel => exact ⟨k + 1, by omega, by go_num, H4.out, B4.out⟩
        case measure => simp [intOf]; omega
      · have hkn : k = n := by omega
        subst hkn
        obtain ⟨s1, s2, s3, _⟩ := stS_bd HOK.out k (by rw [HN.out]; exact Nat.le_refl _)
        have hil : it.length ≤ 100000 := by
          have := congrArg List.length HO.out
          rw [List.length_map] at this
          omega
        go_wp2_with fail
        refine Calls.mono (iend wr w1.heap.size v u it (stS l k).p false hil (by omega) HD.out) ?_
        rintro e w5 ⟨rfl, v', it', d1, i1, b1, _⟩
        have D5 : Hid (DW w1.heap.size w5 v' it' (.slice none 0 0) []) := d1
        have I5 : Hid (it'.map (·.2) = lnsP l) := by show _ = _; rw [i1, HO.out]; unfold lnsP; rw [HN.out]
        have B5 : Hid (Nw w1 w5) := Below.trans HWR.out b1
        have HL61 : Hid ((lnsP l).length ≤ 1048576) := by
          have := endL_len (stS l l.length).o (stS l l.length).p false
          have e := HN.out
          show (lnsP l).length ≤ 1048576
          unfold lnsP
          rw [e] at this ⊢
          omega
        clear d1 i1 b1 s1 s2 s3 hil
        obtain ⟨la, lc, rfl, hlines⟩ := D5.out.d.ln.lines
        rw [I5.out] at hlines D5
        have c0 := D5.out.c0
        have hll := HL61.out
        have HMA : Hid _ := imany w5 la lc (lnsP l) hll (by have := HM.out; omega) hlines
        have d6 : decide ((600 : Int) < ((manyL (lnsP l) : Nat) : Int)) = false := by have := HM.out; simp; omega
        have O5 : Hid (LsOk w5 w.heap.size (.slice la (lnsP l).length lc) (lnsP l)) := LsOk.of (OwnLn.base D5.out.d.ln (by have := N1.out.size; omega)) I5.out
        have N5 : Hid (Nw w w5) := Nw.trans N1.out B5.out
        have L5 : Hid (w1.heap.size < w5.heap.size) := D5.out.lt
        clear hlines hll D5
        generalize manyL (lnsP l) = nm at *
        generalize (lnsP l).length = nl at *
        go_wp2_with fail
        refine Calls.mono HMA.out ?_
        rintro e w6 ⟨rfl, k6⟩
        have c0' := ((Kp.cells k6).1 _ _ L5.out).trans c0
        have O6 : Hid (LsOk w6 w.heap.size (.slice la nl lc) (lnsP l)) := LsOk.nw O5.out k6.nw
        have N6 : Hid (Nw w w6) := Nw.trans N5.out k6.nw
        clear k6 c0
        go_wp2
        go_ret2
        exact ⟨_, rfl, O6.out, N6.out⟩
end Go.Proofs.Ytoajjdlgipphiaa
