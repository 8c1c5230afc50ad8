/-
  Lines out of steps, by the reference: l9Lines; each theorem names its conditions.
-/
import Derived.Test.YtoajjdlgipphiaaLoLP
import Derived.Test.YtoajjdlgipphiaaLoLR
import Derived.Deep.DeepCutAuto
namespace Go.Proofs.Ytoajjdlgipphiaa
open Go.ChangeShapes Go.WideShapes Go.ChangeAt Go.RowKit
set_option linter.unusedVariables false

theorem one_line {w : World} {B : Nat} {u : Value} {ld : LD} {l : List Pnt} (h : OwnP w B u l) : ∀ x ∈ flat2 (vLn [(u, ld)]), x.oneCell' = true := by
  obtain ⟨a, n, c, rfl⟩ := OwnQ.slice h
  intro x hx
  simp only [vLn, List.map_cons, List.map_nil, flat2, List.mem_cons, List.not_mem_nil, or_false] at hx
  rcases hx with rfl | rfl <;> rfl
theorem ints_two {w : World} {na : Option Addr} {ns : List Int} (h : Ints w na ns) (hn : ns.length = 2) : ∃ nb no x y, na = some ⟨nb, no, none⟩ ∧ nb < w.heap.size ∧ ns = [x, y] ∧ w.cell? ⟨nb, no, none⟩ = some (.int .i64 x) ∧ w.cell? ⟨nb, no + 1, none⟩ = some (.int .i64 y) := by
  obtain ⟨x, y, rfl⟩ := ns_two hn
  rcases h with h | ⟨b, off, rfl, hb, hc⟩
  · cases h
  · exact ⟨b, off, x, y, rfl, hb, rfl, hc 0 (by simp), hc 1 (by simp)⟩
theorem ints_six {w : World} {na : Option Addr} {ns : List Int} (h : Ints w na ns) (hn : ns.length = 6) : ∃ nb no x0 y0 x1 y1 x2 y2, na = some ⟨nb, no, none⟩ ∧ nb < w.heap.size ∧ ns = [x0, y0, x1, y1, x2, y2] ∧ w.cell? ⟨nb, no, none⟩ = some (.int .i64 x0) ∧ w.cell? ⟨nb, no + 1, none⟩ = some (.int .i64 y0) ∧ w.cell? ⟨nb, no + 2, none⟩ = some (.int .i64 x1) ∧ w.cell? ⟨nb, no + 3, none⟩ = some (.int .i64 y1) ∧ w.cell? ⟨nb, no + 4, none⟩ = some (.int .i64 x2) ∧ w.cell? ⟨nb, no + 5, none⟩ = some (.int .i64 y2) := by
  obtain ⟨a, b, c, d, e, f, rfl⟩ := ns_six hn
  rcases h with h | ⟨g, off, rfl, hb, hc⟩
  · cases h
  · exact ⟨g, off, a, b, c, d, e, f, rfl, hb, rfl, hc 0 (by simp), hc 1 (by simp), hc 2 (by simp), hc 3 (by simp), hc 4 (by simp), hc 5 (by simp)⟩
theorem pts_four (w : World) (t : TypeId) (a b c d e f g h : Int) : Pts (w.alloc (.cells #[.int .i64 a, .int .i64 b, .int .i64 c, .int .i64 d, .int .i64 e, .int .i64 f, .int .i64 g, .int .i64 h] t)) (some ⟨w.heap.size, 0, none⟩) [(a, b), (c, d), (e, f), (g, h)] := by
  refine Or.inr ⟨w.heap.size, 0, rfl, by simp, fun i hi => ?_⟩
  have hi : i < 4 := hi
  rcases (show i = 0 ∨ i = 1 ∨ i = 2 ∨ i = 3 by omega) with rfl | rfl | rfl | rfl <;> exact ⟨World.cell?_alloc_at _ _ _ _ rfl, World.cell?_alloc_at _ _ _ _ rfl⟩
/-- Between the line that has been ended and the next one. -/
structure MdL (w : World) (sb : Nat) (x y : Value) (w5 : World) (v : Value) (it : Its) (u : Value) (cl : Bool) : Prop where
  ln : OwnLn w5 (w.heap.size + 1) v it
  c0 : w5.cell? ⟨w.heap.size, 0, none⟩ = some u
  c1 : w5.cell? ⟨w.heap.size, 1, none⟩ = some (.bool cl)
  fr : ∀ o, w5.frozen? ⟨w.heap.size, o, none⟩ = false
  bs : Bs sb x y w5
  ne : sb ≠ w.heap.size
  nw : Nw w w5
theorem MdL.nx {w : World} {sb : Nat} {x y : Value} {w5 w6 : World} {v : Value} {it : Its} {u : Value} {cl : Bool} (h : MdL w sb x y w5 v it u cl) (k : Nw w5 w6) : MdL w sb x y w6 v it u cl := by
  have hb := World.block_lt_of_cell? w5 ⟨w.heap.size, 0, none⟩ h.c0
  exact ⟨h.ln.nw k, ((bcell k).1 _ _ hb).trans h.c0, ((bcell k).1 _ _ hb).trans h.c1, fun o => ((bcell k).2 _ _ hb).trans (h.fr o), h.bs.nw k, h.ne, Nw.trans h.nw k⟩
/-- What the next line is. -/
def MdE (w : World) (sb : Nat) (x y : Value) (w6 : World) (v : Value) (o : List LD) (pp : List Pnt) : Prop := ∃ it u, LW w.heap.size w6 v it u pp false ∧ it.map (·.2) = o ∧ Bs sb x y w6 ∧ Nw w w6
theorem MdL.done {w : World} {sb : Nat} {x y : Value} {w5 : World} {v : Value} {it : Its} {u : Value} {cl : Bool} (h : MdL w sb x y w5 v it u cl) (a b : Int) :
    MdE w sb x y (((w5.alloc (.cells #[.int .i64 a, .int .i64 b] 54)).setCell ⟨w.heap.size, 0, none⟩ (.slice (some ⟨w5.heap.size, 0, none⟩) 1 1)).setCell ⟨w.heap.size, 1, none⟩ (.bool false)) v (it.map (·.2)) [(a, b)] := by
  obtain ⟨d1, d2⟩ := LW.cut h.ln h.c0 h.c1 h.fr a b
  have n1 : Nw w5 (w5.alloc (.cells #[.int .i64 a, .int .i64 b] 54)) := (Below.refl _ _).alloc (Nat.le_refl _) _
  exact ⟨it, _, d1, rfl, Bs.set (Bs.set (h.bs.nw n1) (fun e => h.ne e.symm)) (fun e => h.ne e.symm), Below.trans h.nw d2⟩
set_option maxRecDepth 100000 in
set_option maxHeartbeats 16000000 in
theorem slines (w : World) (a : Option Addr) (c : Nat) (l : List SD) (hl : l.length ≤ 60) (hok : ∀ i, i < l.length → stOk l i = true) (hr : Steps w a l) :
    Calls Try.prog 44 #[.slice a l.length c] w fun e w' => ∃ v, e = .returned v ∧ LsOk w' w.heap.size v (lnsP l) ∧ Nw w w' := by
  have HR : Hid (Steps w a l) := hr
  have HOK : Hid _ := hok
  obtain ⟨n, hn⟩ : ∃ n, l.length = n := ⟨_, rfl⟩
  have HN : Hid (l.length = n) := hn
  rw [hn] at hl ⊢
  clear hr hok hn
  obtain ⟨W, hW⟩ : ∃ W, w.alloc (.cells #[.slice none 0 0, .bool false] 32) = W := ⟨_, rfl⟩
  have L0 : Hid (LW w.heap.size W (.slice none 0 0) [] (.slice none 0 0) [] false) := by show LW _ _ _ _ _ _ _; rw [← hW]; exact LW.new w _
  have N0 : Hid (Nw w W) := by show Nw _ _; rw [← hW]; exact (Below.refl _ _).alloc (Nat.le_refl _) _
  have HW : Hid (_ = W) := hW
  clear hW
  go_enter Try.func44, Try.ntmps44
  go_wp2
  rw [HW.out]
  go_loopw [3, 13] (fun v i wr => ∃ k : Nat, k ≤ n ∧ i = .int .i64 (k : Int) ∧ (∃ it u p cl, LW w.heap.size wr v it u p cl ∧ RelS (stS l k) (it.map (·.2)) p cl) ∧ Nw w wr) (fun _ i _ => n - (intOf i).toNat)
  case atStart => exact ⟨0, Nat.zero_le _, rfl, ⟨_, _, _, _, L0.out, rfl⟩, N0.out⟩
  case round =>
    obtain ⟨k, hk, rfl, ⟨it, u, p, cl, hlw, hrel⟩, hw⟩ := hrel
    obtain ⟨va, vc, hv⟩ := D2.vln hlw.d
    obtain ⟨ua, uc, hu⟩ := D2.val hlw.d
    subst hv hu
    have HLW : Hid (LW w.heap.size wr (.slice va it.length vc) it (.slice ua p.length uc) p cl) := hlw
    have HREL : Hid (RelS (stS l k) (it.map (·.2)) p cl) := hrel
    have HWR : Hid (Nw w wr) := hw
    obtain ⟨s1, s2, s3, s4⟩ := stS_bd HOK.out k (by rw [HN.out]; exact hk)
    obtain ⟨r1, r2⟩ := rel_bd hrel s1 s3
    rw [List.length_map] at r2
    have HB1 : Hid (p.length ≤ 541 ∧ it.length ≤ 60) := ⟨by omega, by omega⟩
    have HS4 : Hid (0 < k → 0 < (stS l k).p.length) := s4
    have HS2 : Hid ((stS l k).p.length ≤ 540) := by show _ ≤ _; omega
    clear hlw hrel hw s1 s2 s3 s4 r1 r2
    by_cases hlt : k < n
    · obtain ⟨k1, k2, k3, k4⟩ := stOk_some (HOK.out k (by rw [HN.out]; exact hlt))
      have HNX : Hid (stS l (k + 1) = drS (stS l k) (stAt l k)) := rfl
      rcases Steps.nw HR.out HWR.out with h | ⟨b, off, rfl, hb, hc⟩
      · have := HN.out; rw [h] at this; simp at this; omega
      obtain ⟨q0, na, nc, q1, qi⟩ := hc k (by rw [HN.out]; exact hlt)
      clear hc
      have HI1 : Hid (Ints w na (stAt l k).ns) := by
        rcases HR.out with h | ⟨b', off', e', hb', hc'⟩
        · have := HN.out; rw [h] at this; simp at this; omega
        · injection e' with e'; injection e' with e1 e2
          subst e1 e2
          obtain ⟨q0', na', nc', q1', qi'⟩ := hc' k (by rw [HN.out]; exact hlt)
          have := ((bcell HWR.out).1 _ _ hb').trans q1'
          rw [q1] at this
          injection this with this; injection this with t1 t2 t3
          subst t1
          exact qi'
      clear qi
      have HG : Hid ((stS l k).p.length = (stS l k).p.length ∧ ptsB (stS l k).p = true) := ⟨rfl, (stS_good HOK.out k (by rw [HN.out]; exact hk)).2⟩
      generalize hst : stAt l k = st at *
      obtain ⟨kd, ns⟩ := st
      simp only at q0 q1 k1 k2 k3 k4 HI1
      have HKK : Hid (kdB kd = true ∧ (ns.length : Int) = kdN kd ∧ ns.all fixB = true ∧ (k ≠ 0 ∨ kd = 1)) := ⟨k1, k2, k3, k4⟩
      clear k1 k2 k3 k4 hst
      generalize stS l k = d at *
      obtain ⟨W2, hW2⟩ : ∃ W2, wr.alloc (.cells #[.int .i64 kd, .slice na ns.length nc] 76) = W2 := ⟨_, rfl⟩
      have N2 : Hid (Nw wr W2) := by show Nw _ _; rw [← hW2]; exact (Below.refl _ _).alloc (Nat.le_refl _) _
      have B2 : Hid (Bs wr.heap.size (.int .i64 kd) (.slice na ns.length nc) W2) := by show Bs _ _ _ _; rw [← hW2]; exact Bs.new wr _ _ _
      have HW2 : Hid (_ = W2) := hW2
      clear hW2
      have HVL : Hid (∀ b, (Value.slice va it.length vc).ownBlock = some b → b < wr.heap.size) := fun b e => (OwnQ.lt HLW.out.d.ln.own b e).2
      have HSB : Hid (w.heap.size < wr.heap.size) := HLW.out.lt
      obtain ⟨kb, hkb⟩ : ∃ kb, (kd == 1) = kb := ⟨_, rfl⟩
      have HKB : Hid ((kd == 1) = kb) := hkb
      obtain ⟨ck, hck⟩ : ∃ ck, (cl || kb) = ck := ⟨_, rfl⟩
      have HCK : Hid ((cl || kb) = ck) := hck
      have HP0 : Hid (∀ pp oo, (⟨oo, pp⟩ : DS) = cutS (it.map (·.2)) p cl ck → ck = (cl || kb)) := fun _ _ _ => hck.symm
      clear hck hkb
      generalize hsb : wr.heap.size = sb at *
      have HSE : Hid (wr.heap.size = sb) := hsb
      go_upto_region 6 with fail
      rw [HW2.out]
      try rw [HSE.out]
      clear q0 q1 hb hsb
      have LW2 : Hid (LW w.heap.size W2 (.slice va it.length vc) it (.slice ua p.length uc) p cl) := LW.nw HLW.out N2.out
      have c0 := LW2.out.b.c0
      have c1 := LW2.out.b.c1
      have fr := LW2.out.b.free
      have t0 := B2.out.1
      have NW2 : Hid (Nw w W2) := Nw.trans HWR.out N2.out
      clear HLW HW2
      generalize hnp : p.length = np at *
      have HNP : Hid (p.length = np) := hnp
      generalize hni : it.length = ni at *
      have HNI : Hid (it.length = ni) := hni
      generalize hnn : ns.length = nn at *
      have HNN : Hid (ns.length = nn) := hnn
      clear hnp hni hnn
      go_cut [23] (fun b wx => b = .bool ck ∧ W2 = wx)
      case first =>
        have hkb := HKB.out
        have hck := HCK.out
        cases cl <;> cases kb <;> (subst hck; go_wp2; go_meet; exact ⟨rfl, rfl⟩)
      case rest =>
        obtain ⟨rfl, hwc⟩ := hcut
        subst hwc
        go_upto_if 23 with fail
        go_cut [3, 7] (fun v7 f wx => MdE w sb (.int .i64 kd) (.slice na nn nc) wx v7 (cutS (it.map (·.2)) p cl ck).o (cutS (it.map (·.2)) p cl ck).p)
        case first =>
          cases ck with
          | false =>
            have hcl : cl = false := (Bool.or_eq_false_iff.1 HCK.out).1
            have HX : Hid (MdE w sb (.int .i64 kd) (.slice na nn nc) W2 (.slice va ni vc) (it.map (·.2)) p) := ⟨it, _, by rw [← hcl]; exact LW2.out, rfl, B2.out, NW2.out⟩
            go_wp2
            go_meet
            exact HX.out
          | true =>
            have HOE : Hid ((cutS (it.map (·.2)) p cl true).o = endL (it.map (·.2)) p cl ∧ (cutS (it.map (·.2)) p cl true).p = [ptAt p 0]) := ⟨rfl, rfl⟩
            clear t0
            by_cases h0 : 0 < np
            · have hown := LW2.out.b.own
              obtain ⟨g, cc, hu, hlie⟩ := ownp_some hown (by rw [HNP.out]; exact h0)
              have hua : ua = some ⟨g, 0, none⟩ := by injection hu
              subst hua
              have hg5 := (OwnQ.lt hown g rfl)
              obtain ⟨px, hpx⟩ : ∃ px, (ptAt p 0).1 = px := ⟨_, rfl⟩
              obtain ⟨py, hpy⟩ : ∃ py, (ptAt p 0).2 = py := ⟨_, rfl⟩
              have HPT : Hid (ptAt p 0 = (px, py)) := by show _ = _; rw [← hpx, ← hpy]
              have P2 : Hid (W2.cell? ⟨g, 0, none⟩ = some (.int .i64 px) ∧ W2.cell? ⟨g, 1, none⟩ = some (.int .i64 py)) := by
                show _ ∧ _
                have := (hlie.2 0 (by rw [HNP.out]; exact h0))
                rw [hpx, hpy] at this
                simpa using this
              have hg6 : Hid (g < W2.heap.size) := hg5.2
              have HVG : Hid ((Value.slice va ni vc).ownBlock ≠ some g) := (LW2.out.d.ap g rfl).1
              clear hown hu hlie hpx hpy hg5
              have d0 : decide (0 < np) = true := decide_eq_true h0
              by_cases h1 : 1 < np
              · have d1 : decide ((1 : Int) < (np : Int)) = true := by simp; omega
                have HEL : Hid (endL (it.map (·.2)) p cl = (it ++ [(Value.slice (some ⟨g, 0, none⟩) np uc, (⟨p, cl⟩ : LD))]).map (·.2)) := by
                  show _ = _
                  unfold endL
                  rw [HNP.out, if_pos h1]
                  simp
                clear h1
                have n1 : Nw W2 (W2.alloc (.cells #[.slice (some ⟨g, 0, none⟩) np uc, .bool cl] 32)) := (Below.refl _ _).alloc (Nat.le_refl _) _
                have NL : Hid _ := n1
                have HU : Hid (OwnP (W2.alloc (.cells #[.slice (some ⟨g, 0, none⟩) np uc, .bool cl] 32)) (w.heap.size + 1) (.slice (some ⟨g, 0, none⟩) np uc) (⟨p, cl⟩ : LD).pts) := OwnQ.nw LW2.out.b.own n1
                have HQ : Hid (OwnQ 32 (W2.alloc (.cells #[.slice (some ⟨g, 0, none⟩) np uc, .bool cl] 32)) (w.heap.size + 1) (.slice va ni vc) (vLn it)) := OwnQ.nw LW2.out.d.ln.own n1
                have H1 : Hid (∀ x ∈ flat2 (vLn [((.slice (some ⟨g, 0, none⟩) np uc, ⟨p, cl⟩) : Value × LD)]), x.oneCell' = true) := one_line HU.out
                have HI : Hid (∀ i, i < (vLn [((.slice (some ⟨g, 0, none⟩) np uc, ⟨p, cl⟩) : Value × LD)]).length → (W2.alloc (.cells #[.slice (some ⟨g, 0, none⟩) np uc, .bool cl] 32)).cell? ⟨W2.heap.size, 0 + i * 2, none⟩ = some (vvAt (vLn [((.slice (some ⟨g, 0, none⟩) np uc, ⟨p, cl⟩) : Value × LD)]) i).1 ∧ (W2.alloc (.cells #[.slice (some ⟨g, 0, none⟩) np uc, .bool cl] 32)).cell? ⟨W2.heap.size, 0 + i * 2 + 1, none⟩ = some (vvAt (vLn [((.slice (some ⟨g, 0, none⟩) np uc, ⟨p, cl⟩) : Value × LD)]) i).2) := fun i hi => by
                  have : i = 0 := by simp [vLn] at hi; omega
                  subst this
                  simp [vLn, vvAt]
                have hsz2 : Hid (w.heap.size + 1 ≤ (W2.alloc (.cells #[.slice (some ⟨g, 0, none⟩) np uc, .bool cl] 32)).heap.size) := by show _ ≤ _; have := LW2.out.lt; simp; omega
                clear n1
                go_wp2_with (at_builtin; (refine wpl_q 32 27 27 (.slice none 0 0) (.bool false) 32 under_lns under_lns info_line (by decide) rfl (W2.alloc (.cells #[.slice (some ⟨g, 0, none⟩) np uc, .bool cl] 32)) (.tmp 28) (.tmp 30) rfl (w.heap.size + 1) (.slice va ni vc) (vLn it) (vLn [((.slice (some ⟨g, 0, none⟩) np uc, ⟨p, cl⟩) : Value × LD)]) rfl HQ.out W2.heap.size 0 1 1 rfl rfl HI.out H1.out (by rw [vLn_len]; simp) ?cl hsz2.out rfl ?_))
                case cl => rw [vLn_len, vLn_len]; have := HB1.out; have := HNI.out; simp; omega
                intro g' c' w5 h2 h3
                rw [← vLn_append] at h2
                rw [vLn_len] at h2 h3 ⊢
                have LW3 := LW.nw LW2.out NL.out
                have H2 : Hid _ := D2.lput LW3.d h2 h3
                have M5 : Hid (MdL w sb (.int .i64 kd) (.slice na nn nc) w5 (.slice (some ⟨g', 0, none⟩) (it.length + 1) c') (it ++ [(Value.slice (some ⟨g, 0, none⟩) np uc, (⟨p, cl⟩ : LD))]) (.slice (some ⟨g, 0, none⟩) np uc) cl) := by
                  have e := fun o => Ext.cell h3 LW3.lt LW3.nev o
                  have ef := fun o => (World.frozen?_of_block (a := ⟨w.heap.size, o, none⟩) (h3.1.block w.heap.size LW3.lt (fun e => LW3.nev e.symm))).trans (LW3.b.free o)
                  refine ⟨H2.out, (e 0).trans LW3.b.c0, (e 1).trans LW3.b.c1, ef, Bs.ext (Bs.nw B2.out NL.out) h3 (fun e => by have := HVL.out _ e; omega), by have := HSB.out; omega, ?_⟩
                  exact Below.trans (Nw.trans NW2.out NL.out) (Ext.below h3 (fun g e => Nat.le_of_succ_le (OwnQ.lt HQ.out g e).1) (by have := hsz2.out; omega))
                have P5 : Hid (w5.cell? ⟨g, 0, none⟩ = some (.int .i64 px) ∧ w5.cell? ⟨g, 1, none⟩ = some (.int .i64 py)) := by
                  have e := fun o => (Ext.cell h3 (Nat.lt_of_lt_of_le hg6.out (Below.size NL.out)) HVG.out o).trans ((bcell NL.out).1 g o hg6.out)
                  exact ⟨(e 0).trans P2.out.1, (e 1).trans P2.out.2⟩
                have L5 : Hid (g < w5.heap.size) := World.block_lt_of_cell? w5 ⟨g, 0, none⟩ P5.out.1
                have I5 : Hid ((it ++ [(Value.slice (some ⟨g, 0, none⟩) np uc, (⟨p, cl⟩ : LD))]).map (·.2) = endL (it.map (·.2)) p cl) := HEL.out.symm
                have c5 := M5.out.c0
                have hni := HNI.out
                rw [hni] at M5 ⊢
                clear h2 h3 LW3 H2 hni
                have n9 : Nw w5 (w5.alloc (.cells #[.int .i64 0, .int .i64 0] 54)) := (Below.refl _ _).alloc (Nat.le_refl _) _
                have c9 := (MdL.nx M5.out n9).c0
                have px9 := ((bcell n9).1 _ _ L5.out).trans P5.out.1
                have py9 := ((bcell n9).1 _ _ L5.out).trans P5.out.2
                have M6 : Hid (MdL w sb (.int .i64 kd) (.slice na nn nc) (w5.alloc (.cells #[.int .i64 px, .int .i64 py] 54)) (.slice (some ⟨g', 0, none⟩) (ni + 1) c') (it ++ [(Value.slice (some ⟨g, 0, none⟩) np uc, (⟨p, cl⟩ : LD))]) (.slice (some ⟨g, 0, none⟩) np uc) cl) := MdL.nx M5.out ((Below.refl _ _).alloc (Nat.le_refl _) _)
                have f0 : ∀ o1, ((w5.alloc (.cells #[.int .i64 px, .int .i64 py] 54)).alloc o1).cell? ⟨w.heap.size, 0, none⟩ = some (.slice (some ⟨g, 0, none⟩) np uc) := fun o1 => (MdL.nx M6.out ((Below.refl _ _).alloc (Nat.le_refl _) _)).c0
                have f1 : ∀ o1, ((w5.alloc (.cells #[.int .i64 px, .int .i64 py] 54)).alloc o1).cell? ⟨w.heap.size, 1, none⟩ = some (.bool cl) := fun o1 => (MdL.nx M6.out ((Below.refl _ _).alloc (Nat.le_refl _) _)).c1
                have f2 : ∀ o1 o, ((w5.alloc (.cells #[.int .i64 px, .int .i64 py] 54)).alloc o1).frozen? ⟨w.heap.size, o, none⟩ = false := fun o1 => (MdL.nx M6.out ((Below.refl _ _).alloc (Nat.le_refl _) _)).fr
                go_wp2
                go_meet
                rw [HOE.out.1, HOE.out.2, HPT.out]
                have := MdL.done M6.out px py
                rw [I5.out] at this
                simpa using this
              · have d1 : decide ((1 : Int) < (np : Int)) = false := by simp; omega
                have I5 : Hid (it.map (·.2) = endL (it.map (·.2)) p cl) := by show _ = _; unfold endL; rw [HNP.out, if_neg h1]
                clear h1
                obtain ⟨w5, hw5⟩ : ∃ w5, W2 = w5 := ⟨_, rfl⟩
                subst hw5
                have M5 : Hid (MdL w sb (.int .i64 kd) (.slice na nn nc) W2 (.slice va ni vc) it (.slice (some ⟨g, 0, none⟩) np uc) cl) := ⟨LW2.out.d.ln, c0, c1, fr, B2.out, by have := HSB.out; omega, NW2.out⟩
                have P5 := P2
                have L5 := hg6
                have n9 : Nw W2 (W2.alloc (.cells #[.int .i64 0, .int .i64 0] 54)) := (Below.refl _ _).alloc (Nat.le_refl _) _
                have c9 := (MdL.nx M5.out n9).c0
                have px9 := ((bcell n9).1 _ _ L5.out).trans P5.out.1
                have py9 := ((bcell n9).1 _ _ L5.out).trans P5.out.2
                have M6 : Hid (MdL w sb (.int .i64 kd) (.slice na nn nc) (W2.alloc (.cells #[.int .i64 px, .int .i64 py] 54)) (.slice va ni vc) it (.slice (some ⟨g, 0, none⟩) np uc) cl) := MdL.nx M5.out ((Below.refl _ _).alloc (Nat.le_refl _) _)
                have f0 : ∀ o1, ((W2.alloc (.cells #[.int .i64 px, .int .i64 py] 54)).alloc o1).cell? ⟨w.heap.size, 0, none⟩ = some (.slice (some ⟨g, 0, none⟩) np uc) := fun o1 => (MdL.nx M6.out ((Below.refl _ _).alloc (Nat.le_refl _) _)).c0
                have f1 : ∀ o1, ((W2.alloc (.cells #[.int .i64 px, .int .i64 py] 54)).alloc o1).cell? ⟨w.heap.size, 1, none⟩ = some (.bool cl) := fun o1 => (MdL.nx M6.out ((Below.refl _ _).alloc (Nat.le_refl _) _)).c1
                have f2 : ∀ o1 o, ((W2.alloc (.cells #[.int .i64 px, .int .i64 py] 54)).alloc o1).frozen? ⟨w.heap.size, o, none⟩ = false := fun o1 => (MdL.nx M6.out ((Below.refl _ _).alloc (Nat.le_refl _) _)).fr
                go_wp2
                go_meet
                rw [HOE.out.1, HOE.out.2, HPT.out]
                have := MdL.done M6.out px py
                rw [I5.out] at this
                simpa using this
            · have hnp0 : np = 0 := by omega
              subst hnp0
              have HP : Hid (p = []) := List.length_eq_zero_iff.1 HNP.out
              have I5 : Hid (it.map (·.2) = endL (it.map (·.2)) p cl) := by show _ = _; unfold endL; rw [HNP.out, if_neg (by omega)]
              have HPT : Hid (ptAt p 0 = (0, 0)) := by show _ = _; rw [HP.out]; rfl
              have M5 : Hid (MdL w sb (.int .i64 kd) (.slice na nn nc) W2 (.slice va ni vc) it (.slice ua 0 uc) cl) := ⟨LW2.out.d.ln, c0, c1, fr, B2.out, by have := HSB.out; omega, NW2.out⟩
              have c9 := (MdL.nx M5.out ((Below.refl _ _).alloc (Nat.le_refl _) (.cells #[.int .i64 0, .int .i64 0] 54))).c0
              have M6 : Hid (MdL w sb (.int .i64 kd) (.slice na nn nc) (W2.alloc (.cells #[.int .i64 0, .int .i64 0] 54)) (.slice va ni vc) it (.slice ua 0 uc) cl) := MdL.nx M5.out ((Below.refl _ _).alloc (Nat.le_refl _) _)
              have f0 : ∀ o1, ((W2.alloc (.cells #[.int .i64 0, .int .i64 0] 54)).alloc o1).cell? ⟨w.heap.size, 0, none⟩ = some (.slice ua 0 uc) := fun o1 => (MdL.nx M6.out ((Below.refl _ _).alloc (Nat.le_refl _) _)).c0
              have f1 : ∀ o1, ((W2.alloc (.cells #[.int .i64 0, .int .i64 0] 54)).alloc o1).cell? ⟨w.heap.size, 1, none⟩ = some (.bool cl) := fun o1 => (MdL.nx M6.out ((Below.refl _ _).alloc (Nat.le_refl _) _)).c1
              have f2 : ∀ o1 o, ((W2.alloc (.cells #[.int .i64 0, .int .i64 0] 54)).alloc o1).frozen? ⟨w.heap.size, o, none⟩ = false := fun o1 => (MdL.nx M6.out ((Below.refl _ _).alloc (Nat.le_refl _) _)).fr
              go_wp2
              go_meet
              rw [HOE.out.1, HOE.out.2, HPT.out]
              have := MdL.done M6.out 0 0
              rw [I5.out] at this
              simpa using this
        case rest =>
          obtain ⟨it7, u9v, hl7, hi7, hb7, hn7⟩ := hcut
          clear c0 c1 fr t0
          obtain ⟨va7, vc7, hv7⟩ := D2.vln hl7.d
          obtain ⟨ua7, uc7, hu7⟩ := D2.val hl7.d
          subst hv7 hu7
          have HI7 : Hid (it7.map (·.2) = (cutS (it.map (·.2)) p cl ck).o) := hi7
          have HB7 : Hid (Bs sb (.int .i64 kd) (.slice na nn nc) wc) := hb7
          have HN7 : Hid (Nw w wc) := hn7
          obtain ⟨pp, hpp⟩ : ∃ pp, (cutS (it.map (·.2)) p cl ck).p = pp := ⟨_, rfl⟩
          have HPP : Hid ((cutS (it.map (·.2)) p cl ck).p = pp) := hpp
          rw [hpp] at hl7
          have HL7 : Hid (LW w.heap.size wc (.slice va7 it7.length vc7) it7 (.slice ua7 pp.length uc7) pp false) := hl7
          have HKL : Hid (∀ q, kdN kd = q → (nn : Int) = q) := fun q h => by rw [← h]; exact HKK.out.2.1
          have n0 : Nw wc wc.drew := (Below.refl _ _).drew
          have ND : Hid (Nw w wc.drew) := Nw.trans HN7.out n0
          have LD7 : Hid (LW w.heap.size wc.drew (.slice va7 it7.length vc7) it7 (.slice ua7 pp.length uc7) pp false) := LW.nw HL7.out n0
          have BD7 : Hid (Bs sb (.int .i64 kd) (.slice na nn nc) wc.drew) := Bs.nw HB7.out n0
          have t0 := HB7.out.1
          clear hl7 hi7 hb7 hn7 hpp n0
          generalize hni7 : it7.length = ni7 at *
          rcases kd_cases HKK.out.1 with hkd | hkd | hkd | hkd

          · subst hkd
            have hkb : kb = true := HKB.out.symm
            subst hkb
            have hn2 : nn = 2 := by have := HKL.out 2 rfl; omega
            subst hn2
            obtain ⟨nb, no, x, y, hna, hnb, hns, cx, cy⟩ := ints_two HI1.out HNN.out
            subst hna hns
            have cx' := ((bcell ND.out).1 _ _ hnb).trans cx
            have cy' := ((bcell ND.out).1 _ _ hnb).trans cy
            have HC : Hid (wc.drew.cell? ⟨nb, no, none⟩ = some (.int .i64 x) ∧ wc.drew.cell? ⟨nb, no + 1, none⟩ = some (.int .i64 y)) := ⟨cx', cy'⟩
            clear hnb cx cy cx' cy' 
            have hrel := rel_cut1 HREL.out
            rw [HCK.out] at hrel
            obtain ⟨pq, hpq⟩ : ∃ pq, ptAt p 0 = pq := ⟨_, rfl⟩
            have hp1 : pp = [pq] := by rw [← HPP.out, hrel.2, hpq]
            subst hp1
            have HRE : Hid (RelS (stS l (k + 1)) (it7.map (·.2)) [(x, y)] false) := by
              show stS l (k + 1) = _
              rw [HNX.out, HI7.out, hrel.1]
              rfl
            obtain ⟨g, cc, hu, hlie⟩ := ownp_some LD7.out.b.own (by simp)
            have hua : ua7 = some ⟨g, 0, none⟩ := by injection hu
            subst hua
            have HF0 : Hid ((∃ z, wc.drew.cell? ⟨g, 0, none⟩ = some (.int .i64 z)) ∧ (∃ z, wc.drew.cell? ⟨g, 1, none⟩ = some (.int .i64 z)) ∧ ∀ o, wc.drew.frozen? ⟨g, o, none⟩ = false) := by
              have := hlie.2 0 (by simp)
              exact ⟨⟨_, by simpa using this.1⟩, ⟨_, by simpa using this.2⟩, fun o => World.ownsRow.frozenAt (LD7.out.b.own : wc.drew.ownsRow _ _ _ _ _ _) o⟩
            clear hu hlie hrel hpq
            go_wp2
            refine reg_change (ops' := opsOf 16 Try.f44) (by kernel_rfl) ?_
            refine LR1.run ⟨w.heap.size, sb, g, uc7, nb, no, nc, x, y, wc.drew, _⟩ ⟨LD7.out.b.c0, BD7.out.2, HC.out.1, HC.out.2, HF0.out.1, HF0.out.2.1, HF0.out.2.2, rfl, rfl, rfl⟩ wc rfl ?_
            rintro γ w9 hw9
            obtain ⟨l1, l2⟩ := LW.first LD7.out x y
            rw [← show w9 = _ from hw9] at l1 l2
            have L9 : Hid _ := l1
            have N9 : Hid (Nw w w9) := Below.trans ND.out l2
            clear l1 l2 hw9
            simp only [Act.put, List.setIfInBounds_toArray, List.set_cons_zero, List.set_cons_succ]
            go_wp2
            go_roundw
            case rel => exact ⟨k + 1, by omega, by go_num, ⟨_, _, _, _, L9.out, HRE.out⟩, N9.out⟩
            case measure => simp [intOf]; omega
          · subst hkd
            have hkb : kb = false := HKB.out.symm
            subst hkb
            have hn2 : nn = 2 := by have := HKL.out 2 rfl; omega
            subst hn2
            obtain ⟨nb, no, x, y, hna, hnb, hns, cx, cy⟩ := ints_two HI1.out HNN.out
            subst hna hns
            have cx' := ((bcell ND.out).1 _ _ hnb).trans cx
            have cy' := ((bcell ND.out).1 _ _ hnb).trans cy
            have HC : Hid (wc.drew.cell? ⟨nb, no, none⟩ = some (.int .i64 x) ∧ wc.drew.cell? ⟨nb, no + 1, none⟩ = some (.int .i64 y)) := ⟨cx', cy'⟩
            clear hnb cx cy cx' cy' 
            have hrel := rel_cut HREL.out
            rw [HCK.out] at hrel
            have hp1 : pp = d.p := by rw [← HPP.out, hrel]
            subst hp1
            have HDO : Hid (it7.map (·.2) = d.o) := by show _ = _; rw [HI7.out, hrel]
            clear hrel
            have HRE : Hid (RelS (stS l (k + 1)) (it7.map (·.2)) (d.p ++ [(x, y)]) false) := by
              show stS l (k + 1) = _
              rw [HNX.out, HDO.out]
              rfl
            go_wp2
            refine reg_change (ops' := opsOf 18 Try.f44) (by kernel_rfl) ?_
            refine LR2.run ⟨w.heap.size, sb, ua7, d.p.length, uc7, d.p, false, nb, no, nc, x, y, wc.drew, _⟩ ⟨LD7.out.b, by have := HS2.out; show d.p.length + 1 ≤ 1000000; omega, BD7.out.2, HC.out.1, HC.out.2, rfl, rfl, rfl⟩ wc (Kp.refl _) ?_
            rintro γ w9 ⟨w7, w8, g9, c9, k1, g1, o1, y1, hw9⟩
            simp only at g1 o1 y1 k1 hw9 ⊢
            obtain ⟨l1, l2⟩ := LW.pput (LW.nw LD7.out k1.nw) y1 o1
            rw [← hw9] at l1 l2
            have L9 : Hid (∃ u', LW w.heap.size w9 (.slice va7 ni7 vc7) it7 u' (d.p ++ [(x, y)]) false) := ⟨_, l1⟩
            have N9 : Hid (Nw w w9) := Below.trans (Nw.trans ND.out k1.nw) l2
            clear l1 l2 hw9 o1 y1 k1 g1
            simp only [Act.put, List.setIfInBounds_toArray, List.set_cons_zero, List.set_cons_succ]
            generalize γ 0 = z0 at *
            generalize γ 1 = z1 at *
            go_wp2
            go_roundw
            case rel =>
              obtain ⟨u', l1⟩ := L9.out
              exact ⟨k + 1, by omega, by go_num, ⟨_, _, _, _, l1, HRE.out⟩, N9.out⟩
            case measure => simp [intOf]; omega
          · subst hkd
            have hkb : kb = false := HKB.out.symm
            subst hkb
            have hn6 : nn = 6 := by have := HKL.out 6 rfl; omega
            subst hn6
            obtain ⟨nb, no, x0, y0, x1, y1, x2, y2, hna, hnb, hns, cx0, cy0, cx1, cy1, cx2, cy2⟩ := ints_six HI1.out HNN.out
            subst hna hns
            have eC := fun o => (bcell ND.out).1 nb o hnb
            have HC : Hid _ := And.intro ((eC _).trans cx0) (And.intro ((eC _).trans cy0) (And.intro ((eC _).trans cx1) (And.intro ((eC _).trans cy1) (And.intro ((eC _).trans cx2) ((eC _).trans cy2)))))
            clear hnb cx0 cy0 cx1 cy1 cx2 cy2 eC
            have hrel := rel_cut HREL.out
            rw [HCK.out] at hrel
            have hp1 : pp = d.p := by rw [← HPP.out, hrel]
            subst hp1
            have HDO : Hid (it7.map (·.2) = d.o) := by show _ = _; rw [HI7.out, hrel]
            clear hrel
            have hk0 : 0 < k := by
              rcases HKK.out.2.2.2 with h | h
              · omega
              · omega
            have hp0 := HS4.out hk0
            obtain ⟨g, cc, hu, hlie⟩ := ownp_some LD7.out.b.own hp0
            have hua : ua7 = some ⟨g, 0, none⟩ := by injection hu
            subst hua
            obtain ⟨lx, hlx⟩ : ∃ lx, (lastP d.p).1 = lx := ⟨_, rfl⟩
            obtain ⟨ly, hly⟩ : ∃ ly, (lastP d.p).2 = ly := ⟨_, rfl⟩
            have HLL : Hid (wc.drew.cell? ⟨g, (d.p.length - 1) * 2, none⟩ = some (.int .i64 lx) ∧ wc.drew.cell? ⟨g, (d.p.length - 1) * 2 + 1, none⟩ = some (.int .i64 ly)) := by
              have := hlie.2 (d.p.length - 1) (by omega)
              rw [← hlx, ← hly]
              unfold lastP
              show _ ∧ _
              simpa using this
            obtain ⟨E, hE⟩ : ∃ E, E = [(lx, ly), (x0, y0), (x1, y1), (x2, y2)] := ⟨_, rfl⟩
            have HEE : Hid (lastP d.p :: prs [x0, y0, x1, y1, x2, y2] = E) := by
              show _ = _
              rw [hE, ← hlx, ← hly]
              rfl
            have HE4 : Hid (E.length = 4) := by show _ = _; rw [hE]; rfl
            have HGE : Hid (ptsB E = true) := by
              show _ = _
              rw [← HEE.out]
              have h1 := ptsB_at HG.out.2 (d.p.length - 1) (by omega)
              have h2 := prs_good _ HKK.out.2.2.1
              unfold ptsB at h2 ⊢
              simp only [List.all_cons, Bool.and_eq_true]
              exact ⟨h1, h2⟩
            have HRE : Hid (RelS (stS l (k + 1)) (it7.map (·.2)) (d.p ++ bndL E 8) false) := by
              show stS l (k + 1) = _
              rw [HNX.out, HDO.out, ← HEE.out]
              rfl
            have hgl : Hid (g < wc.heap.size) := (OwnQ.lt HL7.out.b.own g rfl).2
            have hwm : IntKind.i64.wrap ((d.p.length : Int) - 1) = ((d.p.length - 1 : Nat) : Int) := by have := HS2.out; rw [IntWalk.i64_in _ ⟨by omega, by omega⟩]; omega
            have hmn : d.p.length - 1 < d.p.length := by omega
            have HE : Hid (E = [(lx, ly), (x0, y0), (x1, y1), (x2, y2)]) := hE
            clear hu hlie hlx hly hE hp0
            go_wp2
            refine reg_change (ops' := opsOf 20 Try.f44) (by kernel_rfl) ?_
            refine LR3.run ⟨w.heap.size, sb, g, d.p.length, d.p.length - 1, uc7, nb, no, nc, lx, ly, x0, y0, x1, y1, x2, y2, wc.drew, _⟩ ⟨LD7.out.b.c0, hwm, hmn, HLL.out.1, HLL.out.2, BD7.out.2, HC.out.1, HC.out.2.1, HC.out.2.2.1, HC.out.2.2.2.1, HC.out.2.2.2.2.1, HC.out.2.2.2.2.2, rfl, rfl, rfl⟩ wc rfl ?_
            rintro γ w10 ⟨g1, hw10⟩
            simp only at g1 hw10 ⊢
            have n10 : Nw wc.drew w10 := by rw [hw10]; exact (Below.refl _ _).alloc (Nat.le_refl _) _
            have L10 : Hid (LW w.heap.size w10 (.slice va7 ni7 vc7) it7 (.slice (some ⟨g, 0, none⟩) d.p.length uc7) d.p false) := LW.nw LD7.out n10
            have P10 : Hid (Pts w10 (some ⟨wc.heap.size, 0, none⟩) E) := by
              show Pts _ _ _
              rw [hw10, HE.out]
              exact pts_four wc.drew _ _ _ _ _ _ _ _ _
            have Z10 : Hid (wc.heap.size < w10.heap.size) := by
              show _ < _
              rw [hw10]
              simp
            have N10 : Hid (Nw w w10) := Nw.trans ND.out n10
            have HGN : Hid ((Value.slice (some ⟨g, 0, none⟩) d.p.length uc7).ownBlock ≠ some wc.heap.size) := fun e => by
              have : g = wc.heap.size := by simpa [Value.ownBlock] using e
              have := hgl.out
              omega
            have HBX : Hid (w.heap.size < wc.heap.size) := HL7.out.lt
            simp only [g1, Act.put, List.setIfInBounds_toArray, List.set_cons_zero, List.set_cons_succ]
            clear n10 hw10 g1 hwm hmn
            have g1' : wc.drew.heap.size = wc.heap.size := rfl
            rw [g1']
            generalize hge : wc.heap.size = ge at *
            clear g1'
            generalize γ 0 = z0 at *
            go_wp2
            go_loopw [9] (fun i wr' => ∃ j : Nat, j ≤ 8 ∧ i = .int .i64 ((j : Int) + 1) ∧ (∃ u', LW w.heap.size wr' (.slice va7 ni7 vc7) it7 u' (d.p ++ bndL E j) false ∧ u'.ownBlock ≠ some ge) ∧ Pts wr' (some ⟨ge, 0, none⟩) E ∧ Nw w wr' ∧ ge < wr'.heap.size) (fun i _ => 9 - (intOf i).toNat)
            case atStart => exact ⟨0, by omega, rfl, ⟨_, by simpa [bndL] using L10.out, HGN.out⟩, P10.out, N10.out, Z10.out⟩
            case round =>
              obtain ⟨j, hj, rfl, ⟨u', hl', hu'⟩, hp', hn', hz'⟩ := hrel
              obtain ⟨ua', uc', he'⟩ := D2.val hl'.d
              subst he'
              have HLJ : Hid (LW w.heap.size wr (.slice va7 ni7 vc7) it7 (.slice ua' (d.p ++ bndL E j).length uc') (d.p ++ bndL E j) false) := hl'
              have HUJ : Hid ((Value.slice ua' (d.p ++ bndL E j).length uc').ownBlock ≠ some ge) := hu'
              have HPJ : Hid (Pts wr (some ⟨ge, 0, none⟩) E) := hp'
              have HNJ : Hid (Nw w wr) := hn'
              have HZJ : Hid (ge < wr.heap.size) := hz'
              clear hl' hu' hp' hn' hz'
              by_cases hj8 : j < 8
              · have n0 : Nw wr wr.drew := (Below.refl _ _).drew
                have d8 : decide ((j : Int) + 1 ≤ 8) = true := by simp; omega
                have HS : Hid _ := bndL_step E j
                have HLN : Hid ((d.p ++ bndL E j).length + 1 ≤ 1000000) := by show _ ≤ _; rw [List.length_append, bndL_len]; have := HS2.out; omega
                have HV : Hid (∀ w1, Kp wr.drew w1 → _) := fun w1 (k : Kp wr.drew w1) => scurve_any w1 (some ⟨ge, 0, none⟩) 4 E ((j : Int) + 1) HE4.out (Pts.nw HPJ.out (Nw.trans n0 k.nw)) HGE.out (by omega) (by omega)
                generalize curveP E ((j : Int) + 1) = cp at *
                obtain ⟨x, y⟩ := cp
                go_wp2
                refine reg_change (ops' := opsOf 24 Try.f44) (by kernel_rfl) ?_
                refine LR4.run ⟨w.heap.size, ua', (d.p ++ bndL E j).length, uc', d.p ++ bndL E j, false, ge, (j : Int) + 1, x, y, wr.drew, _⟩ ⟨LnB.nw HLJ.out.b n0, HLN.out, HV.out, rfl, rfl, rfl, rfl⟩ wr (Kp.refl _) ?_
                rintro γ w9 ⟨w7, w8, g9, c9, k1, g1, o1, y1, hw9⟩
                simp only at g1 o1 y1 k1 hw9 ⊢
                have n7 : Nw wr w7 := Nw.trans n0 k1.nw
                obtain ⟨l1, l2⟩ := LW.pput (LW.nw HLJ.out n7) y1 o1
                rw [← hw9] at l1 l2
                have z7 : ge < w7.heap.size := Nat.lt_of_lt_of_le HZJ.out (Below.size n7)
                have L9 : Hid (∃ u', LW w.heap.size w9 (.slice va7 ni7 vc7) it7 u' (d.p ++ bndL E j ++ [(x, y)]) false ∧ u'.ownBlock ≠ some ge) := ⟨_, l1, Ext.apart y1 z7 HUJ.out⟩
                have N9 : Hid (Nw w w9) := Below.trans (Nw.trans HNJ.out n7) l2
                have P9 : Hid (Pts w9 (some ⟨ge, 0, none⟩) E) := by
                  have e9 : ∀ o, w9.cell? ⟨ge, o, none⟩ = w7.cell? ⟨ge, o, none⟩ := fun o => by
                    rw [hw9, World.cell?_setCell_other _ _ _ _ (fun e => by injection e; have := HBX.out; omega)]
                    exact Ext.cell y1 z7 HUJ.out o
                  rcases Pts.nw HPJ.out n7 with h | ⟨b2, off2, he2, hb2, hc2⟩
                  · exact Or.inl h
                  · injection he2 with he2; injection he2 with h1 h2
                    subst h1 h2
                    exact Or.inr ⟨_, 0, rfl, by have := Below.size l2; have := Below.size n7; omega, fun i hi => ⟨(e9 _).trans (hc2 i hi).1, (e9 _).trans (hc2 i hi).2⟩⟩
                have Z9 : Hid (ge < w9.heap.size) := Nat.lt_of_lt_of_le HZJ.out (Nat.le_trans (Below.size n7) (Below.size l2))
                clear l1 l2 hw9 o1 y1 k1 g1 z7 n7 n0
                simp only [Act.put, List.setIfInBounds_toArray, List.set_cons_zero, List.set_cons_succ]
                generalize γ 0 = z0 at *
                generalize γ 1 = z1 at *
                go_wp2
                go_roundw
                case rel =>
                  obtain ⟨u', l1, l2⟩ := L9.out
                  exact ⟨j + 1, by omega, by go_num, ⟨_, by rw [HS.out, ← List.append_assoc]; exact l1, l2⟩, P9.out, N9.out, Z9.out⟩
                case measure => simp [intOf]; omega
              · have d8 : decide ((j : Int) + 1 ≤ 8) = false := by simp; omega
                have hj' : j = 8 := by omega
                subst hj'
                go_wp2
                go_roundw
                case rel => exact ⟨k + 1, by omega, by go_num, ⟨_, _, _, _, HLJ.out, HRE.out⟩, HNJ.out⟩
                case measure => simp [intOf]; omega
          · subst hkd
            have hkb : kb = false := HKB.out.symm
            subst hkb
            have hrel := rel_cut HREL.out
            rw [HCK.out] at hrel
            have hp1 : pp = d.p := by rw [← HPP.out, hrel]
            subst hp1
            have HDO : Hid (it7.map (·.2) = d.o) := by show _ = _; rw [HI7.out, hrel]
            clear hrel
            have HRE : Hid (RelS (stS l (k + 1)) (it7.map (·.2)) d.p true) := by
              show stS l (k + 1) = _
              rw [HNX.out, HDO.out]
              rfl
            have c1 := HL7.out.b.c1
            have fr := HL7.out.b.free
            have HFL : Hid _ := LW.flag HL7.out true
            go_wp2
            go_roundw
            case rel => exact ⟨k + 1, by omega, by go_num, ⟨_, _, _, _, HFL.out.1, HRE.out⟩, Below.trans HN7.out HFL.out.2⟩
            case measure => simp [intOf]; omega
    · have hkn : k = n := by omega
      subst hkn
      have HEN : Hid (endL (it.map (·.2)) p cl = lnsP l) := by show _ = _; unfold lnsP; rw [HN.out]; exact rel_end HREL.out
      have c0 := HLW.out.b.c0
      have c1 := HLW.out.b.c1
      generalize hnp : p.length = np at *
      have HNP : Hid (p.length = np) := hnp
      generalize hni : it.length = ni at *
      have HNI : Hid (it.length = ni) := hni
      clear hnp hni
      by_cases h1 : 1 < np
      · have d1 : decide ((1 : Int) < (np : Int)) = true := by simp; omega
        have HEL : Hid ((it ++ [(Value.slice ua np uc, (⟨p, cl⟩ : LD))]).map (·.2) = lnsP l) := by
          show _ = _
          rw [← HEN.out]
          unfold endL
          rw [HNP.out, if_pos h1]
          simp
        clear h1
        have n1 : Nw wr (wr.alloc (.cells #[.slice ua np uc, .bool cl] 32)) := (Below.refl _ _).alloc (Nat.le_refl _) _
        have NL : Hid _ := n1
        have HU : Hid (OwnP (wr.alloc (.cells #[.slice ua np uc, .bool cl] 32)) (w.heap.size + 1) (.slice ua np uc) (⟨p, cl⟩ : LD).pts) := OwnQ.nw HLW.out.b.own n1
        have HQ : Hid (OwnQ 32 (wr.alloc (.cells #[.slice ua np uc, .bool cl] 32)) (w.heap.size + 1) (.slice va ni vc) (vLn it)) := OwnQ.nw HLW.out.d.ln.own n1
        have H1 : Hid (∀ x ∈ flat2 (vLn [((.slice ua np uc, ⟨p, cl⟩) : Value × LD)]), x.oneCell' = true) := one_line HU.out
        have HI : Hid (∀ i, i < (vLn [((.slice ua np uc, ⟨p, cl⟩) : Value × LD)]).length → (wr.alloc (.cells #[.slice ua np uc, .bool cl] 32)).cell? ⟨wr.heap.size, 0 + i * 2, none⟩ = some (vvAt (vLn [((.slice ua np uc, ⟨p, cl⟩) : Value × LD)]) i).1 ∧ (wr.alloc (.cells #[.slice ua np uc, .bool cl] 32)).cell? ⟨wr.heap.size, 0 + i * 2 + 1, none⟩ = some (vvAt (vLn [((.slice ua np uc, ⟨p, cl⟩) : Value × LD)]) i).2) := fun i hi => by
          have : i = 0 := by simp [vLn] at hi; omega
          subst this
          simp [vLn, vvAt]
        have hsz2 : Hid (w.heap.size + 1 ≤ (wr.alloc (.cells #[.slice ua np uc, .bool cl] 32)).heap.size) := by show _ ≤ _; have := HLW.out.lt; simp; omega
        clear n1
        go_wp2_with (at_builtin; (refine wpl_q 32 27 27 (.slice none 0 0) (.bool false) 32 under_lns under_lns info_line (by decide) rfl (wr.alloc (.cells #[.slice ua np uc, .bool cl] 32)) (.tmp 132) (.tmp 134) rfl (w.heap.size + 1) (.slice va ni vc) (vLn it) (vLn [((.slice ua np uc, ⟨p, cl⟩) : Value × LD)]) rfl HQ.out wr.heap.size 0 1 1 rfl rfl HI.out H1.out (by rw [vLn_len]; simp) ?cl hsz2.out rfl ?_))
        case cl => rw [vLn_len, vLn_len]; have := HB1.out; have := HNI.out; simp; omega
        intro g' c' w5 h2 h3
        rw [← vLn_append] at h2
        rw [vLn_len] at h2 h3 ⊢
        have H2 : Hid _ := D2.lput (LW.nw HLW.out NL.out).d h2 h3
        have N5 : Hid (Nw w w5) := Below.trans (Nw.trans HWR.out NL.out) (Ext.below h3 (fun g e => Nat.le_of_succ_le (OwnQ.lt HQ.out g e).1) (by have := hsz2.out; omega))
        clear h2 h3
        go_wp2
        go_ret
        exact ⟨_, rfl, LsOk.of (OwnLn.base H2.out (Nat.le_succ _)) HEL.out, N5.out⟩
      · have d1 : decide ((1 : Int) < (np : Int)) = false := by simp; omega
        have HEL : Hid (it.map (·.2) = lnsP l) := by
          show _ = _
          rw [← HEN.out]
          unfold endL
          rw [HNP.out, if_neg h1]
        clear h1
        go_wp2
        go_ret
        exact ⟨_, rfl, LsOk.of (OwnLn.base HLW.out.d.ln (Nat.le_succ _)) HEL.out, HWR.out⟩
end Go.Proofs.Ytoajjdlgipphiaa
