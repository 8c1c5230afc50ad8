/-
  The edges of lines, by the specification; each theorem names its conditions.
-/
import Derived.Test.YtllljknpicmmjaaEdP
import Derived.Test.YtllljknpicmmjaaSEdR
import Derived.Test.YtllljknpicmmjaaPtA
namespace Go.Proofs.Ytllljknpicmmjaa
open Go.ChangeShapes Go.WideShapes Go.ChangeAt Go.RowKit
set_option linter.unusedVariables false

set_option maxRecDepth 100000 in
set_option maxHeartbeats 8000000 in
theorem sedges (w : World) (a : Option Addr) (c : Nat) (l : List LD) (hl : l.length ≤ 1048576) (hcv : cvL l = true) (hr : Lines w a l) :
    Calls Try.prog 55 #[.slice a l.length c] w fun e w' => ∃ v, e = .returned v ∧ OwnE 114 w' w.heap.size v (nfl (eAll l l.length)) ∧ Nw w w' := by
  have HR : Hid (Lines w a l) := hr
  have HM : Hid (manyL l ≤ 4800) := (cvL_some hcv).1
  have HN : Hid (nearL l = true) := (cvL_some hcv).2
  clear hr hcv
  go_enter Try.func55, Try.ntmps55
  go_wp2
  go_loopw [3, 13] (fun v i wr => ∃ k : Nat, k ≤ l.length ∧ i = .int .i64 (k : Int) ∧ OwnE 114 wr w.heap.size v (nfl (eAll l k)) ∧ Nw w wr) (fun _ i _ => l.length - (intOf i).toNat)
  case atStart => exact ⟨0, Nat.zero_le _, rfl, OwnE.nil _ _ _, Below.refl _ _⟩
  case round =>
    obtain ⟨k, hk, rfl, hov, hw⟩ := hrel
    have HOV : Hid (OwnE 114 wr w.heap.size u3 (nfl (eAll l k))) := hov
    have HW : Hid (Nw w wr) := hw
    clear hov hw
    by_cases hlt : k < l.length
    · rcases HR.out with h | ⟨b, off, rfl, hb, hc⟩
      · rw [h] at hlt; simp at hlt
      obtain ⟨⟨pa, pc, q0, qp⟩, q1⟩ := hc k hlt
      replace q0 := ((bcell HW.out).1 _ _ hb).trans q0
      replace q1 := ((bcell HW.out).1 _ _ hb).trans q1
      clear hc hb
      have HP : Hid (Pts w pa (lnAt l k).pts) := qp
      have hn : (lnAt l k).pts.length ≤ 4800 := Nat.le_trans (manyL_at l k hlt) HM.out
      have HNR : Hid (nearsB (lnAt l k).pts = true) := nearL_at HN.out k hlt
      have HE : Hid _ := eAll_step l k hlt
      have HLN : Hid ((eAll l k).length ≤ 4800) := by show _ ≤ _; rw [eAll_len]; exact Nat.le_trans (manyL_le l k) HM.out
      clear qp
      generalize (lnAt l k).closed = cl at *
      generalize (lnAt l k).pts = ps at *
      generalize eAll l k = E0 at *
      obtain ⟨n, hnn⟩ : ∃ n, ps.length = n := ⟨_, rfl⟩
      have HNN : Hid (ps.length = n) := hnn
      rw [hnn] at q0 hn HE
      clear hnn
      obtain ⟨W1, hW1⟩ : ∃ W1, wr = W1 := ⟨_, rfl⟩
      rw [hW1] at HW HOV q0 q1 ⊢
      clear hW1
      go_wp2
      go_loopw [3, 23] (fun v i wr => ∃ j : Nat, j ≤ n ∧ i = .int .i64 (j : Int) ∧ OwnE 114 wr w.heap.size v (nfl (E0 ++ eL ps j)) ∧ v.ownBlock ≠ some W1.heap.size ∧ wr.cell? ⟨W1.heap.size, 0, none⟩ = some (.slice pa n pc) ∧ Nw w wr) (fun _ i _ => n - (intOf i).toNat)
      case atStart =>
        have n1 : ∀ o, Nw W1 (W1.alloc o) := fun o => (Below.refl _ _).alloc (Nat.le_refl _) _
        refine ⟨0, Nat.zero_le _, rfl, ?_, fun e => ?_, by simp, Nw.trans HW.out (n1 _)⟩
        · have : E0 ++ eL ps 0 = E0 := by simp [eL]
          rw [this]
          exact OwnE.nw HOV.out (n1 _)
        · have := (OwnE.lt HOV.out _ e).2
          omega
      case round =>
        obtain ⟨j, hj, rfl, hov, hne, hbx, hw⟩ := hrel
        obtain ⟨v2, hv2⟩ : ∃ v2, u3 = v2 := ⟨_, rfl⟩
        rw [hv2] at hov hne ⊢
        clear hv2
        have HO2 : Hid (OwnE 114 wr w.heap.size v2 (nfl (E0 ++ eL ps j))) := hov
        have HNE : Hid (v2.ownBlock ≠ some W1.heap.size) := hne
        have HW2 : Hid (Nw w wr) := hw
        have HBX : Hid (wr.cell? ⟨W1.heap.size, 0, none⟩ = some (.slice pa n pc)) := hbx
        clear hov hne hw
        by_cases hlt2 : j < n
        · obtain ⟨gp, of2, rfl⟩ := pts_some HP.out (by rw [HNN.out]; omega)
          obtain ⟨p0, p1⟩ := pts_at (Pts.nw HP.out HW2.out) (i := j) (by rw [HNN.out]; exact hlt2)
          obtain ⟨s0, s1⟩ := pts_at (Pts.nw HP.out HW2.out) (i := (j + 1) % ps.length) (by rw [HNN.out]; exact Nat.mod_lt _ (by omega))
          have HB1 : Hid _ := nearB_nr (nearsB_at HNR.out j (by rw [HNN.out]; exact hlt2))
          have HB2 : Hid _ := nearB_nr (nearsB_at HNR.out ((j + 1) % ps.length) (by rw [HNN.out]; exact Nat.mod_lt _ (by omega)))
          have HEL : Hid _ := eL_step ps j
          unfold eOf at HEL
          have HLE : Hid ((nfl (E0 ++ eL ps j)).length ≤ 1000000) := by show _ ≤ _; refine Nat.le_trans (nfl_len _) ?_; rw [List.length_append, eL_len]; have := HLN.out; omega
          have HMD : Hid _ := next_mod (k := j) (n := n) hlt2
          have HML : Hid ((j + 1) % n < n) := Nat.mod_lt _ (by omega)
          rw [HNN.out] at s0 s1 HB2 HEL
          generalize (j + 1) % n = m at *
          generalize ptAt ps j = P at *
          generalize ptAt ps m = R at *
          generalize hEJ : eL ps j = EJ at *
          clear hEJ
          obtain ⟨px, py⟩ := P
          obtain ⟨rx, ry⟩ := R
          simp only at p0 p1 s0 s1 HB1 HB2 HEL
          have S0 : Hid _ := s0
          have S1 : Hid _ := s1
          clear s0 s1
          go_wp2
          obtain ⟨W2, hW2⟩ : ∃ W2, wr.alloc (.cells #[.int .i64 px, .int .i64 py] 37) = W2 := ⟨_, rfl⟩
          have N2 : Hid (Nw wr W2.drew) := by show Nw wr W2.drew; rw [← hW2]; exact ((Below.refl _ _).alloc (Nat.le_refl _) _).drew
          have C2 : Hid (W2.drew.cell? ⟨wr.heap.size, 0, none⟩ = some (.int .i64 px) ∧ W2.drew.cell? ⟨wr.heap.size, 1, none⟩ = some (.int .i64 py)) := by show _ ∧ _; rw [← hW2]; exact ⟨show (wr.alloc (.cells #[.int .i64 px, .int .i64 py] 37)).cell? ⟨wr.heap.size, 0, none⟩ = _ by simp, show (wr.alloc (.cells #[.int .i64 px, .int .i64 py] 37)).cell? ⟨wr.heap.size, 1, none⟩ = _ by simp⟩
          rw [hW2]
          clear hW2
          have hbl : W1.heap.size < wr.heap.size := World.block_lt_of_cell? wr ⟨W1.heap.size, 0, none⟩ HBX.out
          have hgl : gp < wr.heap.size := World.block_lt_of_cell? wr ⟨gp, _, none⟩ S0.out
          have hwr : IntKind.i64.wrap ((j : Int) + 1) = (j : Int) + 1 := IntWalk.i64_in _ ⟨by omega, by omega⟩
          refine reg_change (ops' := opsOf 9 Try.f55) (by kernel_rfl) ?_
          refine EC.run ⟨W1.heap.size, gp, of2, n, pc, j, m, rx, ry, W2.drew, _⟩ ⟨((bcell N2.out).1 _ _ hbl).trans HBX.out, ((bcell N2.out).1 _ _ hgl).trans S0.out, ((bcell N2.out).1 _ _ hgl).trans S1.out, HML.out, hwr, by have := HML.out; show ¬ n = 0; omega, HMD.out, rfl, rfl, rfl, rfl⟩ W2 (Kp.refl _) ?_
          rintro γ w3 ⟨g, g0, hg, ⟨t0, t1⟩, tf, k3⟩
          simp only at g0 hg t0 t1 k3
          have K3 : Hid (Kp W2.drew w3) := k3
          have T3 : Hid (w3.drew.cell? ⟨g, 0, none⟩ = some (.int .i64 rx) ∧ w3.drew.cell? ⟨g, 1, none⟩ = some (.int .i64 ry)) := ⟨t0, t1⟩
          clear hg t0 t1 tf k3 hbl hgl p0 p1 hwr
          simp only [g0, Act.put, List.setIfInBounds_toArray, List.set_cons_zero, List.set_cons_succ]
          clear g0 γ
          go_wp2
          have N3 : Hid (Nw wr w3.drew) := Nw.trans N2.out (K3.out.nw.drew)
          have C3 : Hid (w3.drew.cell? ⟨wr.heap.size, 0, none⟩ = some (.int .i64 px) ∧ w3.drew.cell? ⟨wr.heap.size, 1, none⟩ = some (.int .i64 py)) := ⟨rq_at K3.out.drew C2.out.1, rq_at K3.out.drew C2.out.2⟩
          refine reg_change (ops' := opsOf 10 Try.f55) (by kernel_rfl) ?_
          refine ED.run ⟨wr.heap.size, g, px, py, rx, ry, w3.drew, _⟩ ⟨C3.out.1, C3.out.2, T3.out.1, T3.out.2, HB1.out.1, HB1.out.2, HB2.out.1, HB2.out.2, rfl, rfl, rfl⟩ w3 (Kp.refl _) ?_
          rintro γ w4 ⟨g2, e0, hg2, ⟨z0, z1, z2, z3⟩, zf, k4⟩
          simp only at e0 hg2 z0 z1 z2 z3 k4
          have N4 : Hid (Nw wr w4) := Nw.trans N3.out k4.nw
          clear hg2 zf k4
          simp only [e0, Act.put, List.setIfInBounds_toArray, List.set_cons_zero, List.set_cons_succ]
          clear e0 γ
          generalize fnV px = ax at *
          generalize fnV py = ay at *
          generalize fnV rx = bx at *
          generalize fnV ry = cy at *
          have hbl : W1.heap.size < w4.heap.size := Nat.lt_of_lt_of_le (World.block_lt_of_cell? wr ⟨W1.heap.size, 0, none⟩ HBX.out) (Below.size N4.out)
          have HBL : Hid (W1.heap.size < w4.heap.size) := hbl
          clear hbl
          have HB4 : Hid (w4.cell? ⟨W1.heap.size, 0, none⟩ = some (.slice (some ⟨gp, of2, none⟩) n pc)) := ((bcell N4.out).1 _ _ (World.block_lt_of_cell? wr ⟨W1.heap.size, 0, none⟩ HBX.out)).trans HBX.out
          have HAS : Hid (nfl (E0 ++ eL ps (j + 1)) = nfl (E0 ++ EJ) ++ nfl [⟨ax, ay, bx, cy⟩]) := by show _ = _; rw [HEL.out, ← List.append_assoc, nfl_app]
          by_cases hfl : ay = cy
          · have hne : (ay != cy) = false := by simp [hfl]
            have HNF : Hid (nfl [⟨ax, ay, bx, cy⟩] = []) := by show _ = _; simp [nfl, hfl]
            clear hfl
            go_wp2
            go_roundw
            case rel =>
              refine ⟨j + 1, by omega, by go_num, ?_, HNE.out, HB4.out, Nw.trans HW2.out N4.out⟩
              rw [HAS.out, HNF.out, List.append_nil]
              exact OwnE.nw HO2.out N4.out
            case measure => simp [intOf]; omega
          · have hne : (ay != cy) = true := by simp [hfl]
            have HNF : Hid (nfl [⟨ax, ay, bx, cy⟩] = [⟨ax, ay, bx, cy⟩]) := by show _ = _; simp [nfl, hfl]
            clear hfl
            have HO4 : Hid (OwnE 114 w4 w.heap.size v2 (nfl (E0 ++ EJ))) := OwnE.nw HO2.out N4.out
            have HSZ : Hid (w.heap.size ≤ w4.heap.size) := Nat.le_trans (Below.size HW2.out) (Below.size N4.out)
            generalize nfl (E0 ++ EJ) = L at *
            have HB0 : ∀ o, Hid (Nw w4 (w4.alloc o)) := fun o => (Below.refl _ _).alloc (Nat.le_refl _) _
            go_wp2_with (at_builtin; (refine wpl_e 114 87 Try.underlying87 info_sedge _ rfl _ _ rfl w.heap.size v2 L ⟨ax, ay, bx, cy⟩ rfl (OwnE.nw HO4.out (HB0 _).out) w4.heap.size rfl ?c1 HLE.out ?c3 ?_))
            case c3 => exact Nat.le_trans HSZ.out (Below.size (HB0 _).out)
            intro v3 w5 o5 x5
            have X5 : Hid (Ext v2 v3 w4 w5) := Nw.ext (HB0 _).out x5
            have O5 : Hid (OwnE 114 w5 w.heap.size v3 (L ++ [⟨ax, ay, bx, cy⟩])) := o5
            clear o5 x5 HB0 z0 z1 z2 z3
            go_wp2
            go_roundw
            case rel =>
              refine ⟨j + 1, by omega, by go_num, ?_, Ext.apart X5.out HBL.out HNE.out, (Ext.cell X5.out HBL.out HNE.out 0).trans HB4.out, ?_⟩
              · rw [HAS.out, HNF.out]; exact O5.out
              · exact Below.trans (Nw.trans HW2.out N4.out) (Ext.below X5.out (fun g e => (OwnE.lt HO2.out g e).1) HSZ.out)
            case measure => simp [intOf]; omega
        · have e : j = n := by omega
          subst e
          go_wp2
          go_roundw
          case rel => exact ⟨k + 1, by omega, by go_num, by rw [HE.out]; exact HO2.out, HW2.out⟩
          case measure => simp [intOf]; omega
    · have e : k = l.length := by omega
      subst e
      go_wp2
      go_ret
      exact ⟨_, rfl, HOV.out, HW.out⟩
end Go.Proofs.Ytllljknpicmmjaa
