/-
  pointsOf and the drawing's end, by the program; each theorem names its conditions.
-/
import Derived.Test.YtoajjdlgipphiaaLoR
import Derived.Test.YtoajjdlgipphiaaLoP
namespace Go.Proofs.Ytoajjdlgipphiaa
open Go.ChangeShapes Go.WideShapes Go.ChangeAt Go.RowKit
set_option linter.unusedVariables false

theorem prs_take : ∀ (j : Nat) (ns : List Int), 2 * j + 1 < ns.length → prs (ns.take (2 * (j + 1))) = prs (ns.take (2 * j)) ++ [(intAt ns (2 * j), intAt ns (2 * j + 1))]
  | _, [], h => by simp at h
  | _, [x], h => by simp at h
  | 0, x :: y :: l, _ => by simp [prs, intAt]
  | j + 1, x :: y :: l, h => by
    have ih := prs_take j l (by simp at h; omega)
    have e1 : 2 * (j + 1 + 1) = 2 * (j + 1) + 1 + 1 := by omega
    have e2 : 2 * (j + 1) = 2 * j + 1 + 1 := by omega
    rw [e1, List.take_succ_cons, List.take_succ_cons]
    rw [e2, List.take_succ_cons, List.take_succ_cons]
    simp only [prs]
    rw [← e2, ih]
    have f1 : intAt (x :: y :: l) (2 * (j + 1)) = intAt l (2 * j) := by rw [e2]; simp [intAt]
    have f2 : intAt (x :: y :: l) (2 * (j + 1) + 1) = intAt l (2 * j + 1) := by rw [e2]; simp [intAt]
    rw [f1, f2]
    rfl
theorem prs_len : ∀ (ns : List Int), (prs ns).length = ns.length / 2
  | [] => rfl
  | [x] => by simp [prs]
  | x :: y :: l => by simp only [prs, List.length_cons, prs_len l]; omega
set_option maxRecDepth 100000 in
set_option maxHeartbeats 4000000 in
theorem ipointsOf (w : World) (a : Option Addr) (c : Nat) (ns : List Int) (m : Nat) (hm : ns.length = 2 * m) (hl : m ≤ 100) (hr : Ints w a ns) :
    Calls Try.prog 72 #[.slice a ns.length c] w fun e w' => ∃ u, e = .returned u ∧ OwnP w' w.heap.size u (prs ns) ∧ Nw w w' := by
  obtain ⟨W, hW⟩ : ∃ W, w.alloc (.cells #[.slice none 0 0] 60) = W := ⟨_, rfl⟩
  have NW : Hid (Nw w W) := by show Nw _ _; rw [← hW]; exact (Below.refl _ _).alloc (Nat.le_refl _) _
  have L0 : Hid (LV w.heap.size W []) := by show LV _ _ _; rw [← hW]; exact LV.new w _
  have HR : Hid (Ints w a ns) := hr
  have HW : Hid (_ = W) := hW
  obtain ⟨n, hn⟩ : ∃ n, ns.length = n := ⟨_, rfl⟩
  have HN : Hid (ns.length = n) := hn
  rw [hn] at hm ⊢
  clear hW hr hn
  go_enter Try.func72, Try.ntmps72
  go_wp2
  rw [HW.out]
  go_loopw [4] (fun i wr => ∃ j : Nat, j ≤ m ∧ i = .int .i64 ((2 * j : Nat) : Int) ∧ LV w.heap.size wr (prs (ns.take (2 * j))) ∧ Below w.heap.size w wr) (fun i _ => 2 * m - (intOf i).toNat)
  case atStart => exact ⟨0, by omega, rfl, by simpa [prs] using L0.out, NW.out⟩
  case round =>
    obtain ⟨j, hj, rfl, hlv, hw⟩ := hrel
    have HLV : Hid (LV w.heap.size wr (prs (ns.take (2 * j)))) := hlv
    have HWR : Hid (Nw w wr) := hw
    clear hlv hw
    obtain ⟨k, hk⟩ : ∃ k, 2 * j = k := ⟨_, rfl⟩
    by_cases hlt : j < m
    · rcases Ints.nw HR.out HWR.out with h | ⟨b, off, rfl, hb, hc⟩
      · have := HN.out; rw [h] at this; simp at this; omega
      have q0 := hc (2 * j) (by rw [HN.out]; omega)
      have q1 := hc (2 * j + 1) (by rw [HN.out]; omega)
      have HS : Hid _ := prs_take j ns (by rw [HN.out]; omega)
      have HK1 : Hid (2 * (j + 1) = 2 * j + 2) := by show _ = _; omega
      clear hc
      generalize intAt ns (2 * j) = x at *
      generalize intAt ns (2 * j + 1) = y at *
      have HLL : Hid ((prs (ns.take (2 * j))).length + 1 ≤ 1000000) := by show _ ≤ _; rw [prs_len, List.length_take]; omega
      generalize prs (ns.take (2 * j)) = L at *
      have HMJ : Hid (2 * j + 1 < n) := by show _ < _; omega
      rw [hk] at q0 q1 HMJ ⊢
      have dk : decide ((k : Int) < (n : Int)) = true := by have := HMJ.out; simp; omega
      have hwk : IntKind.i64.wrap ((k : Int) + 1) = ((k + 1 : Nat) : Int) := by have := HMJ.out; rw [IntWalk.i64_in _ ⟨by omega, by omega⟩]; omega
      go_wp2
      refine reg_change (ops' := opsOf 5 Try.f72) (by kernel_rfl) ?_
      have HD : Hid (LV w.heap.size wr.drew L) := LV.nw HLV.out ((Below.refl _ _).drew : Nw wr wr.drew)
      refine POR.run ⟨w.heap.size, b, off, n, c, k, k + 1, x, y, fun w' => LV w.heap.size w' (L ++ [(x, y)]) ∧ Below w.heap.size wr.drew w', wr.drew, _⟩ ⟨by have := HMJ.out; show k < n; omega, HMJ.out, q0, q1, hwk, iadd_one wr.drew w.heap.size L x y _ HD.out HLL.out, rfl, rfl, rfl, rfl⟩ wr rfl ?_
      rintro γ w5 ⟨h1, h2⟩
      have H1 : Hid (LV w.heap.size w5 (L ++ [(x, y)])) := h1
      have H2 : Hid (Below w.heap.size w w5) := Below.trans (HWR.out.drew) h2
      clear h1 h2 q0 q1 dk hwk
      simp only [Act.put, List.setIfInBounds_toArray, List.set_cons_zero, List.set_cons_succ]
      generalize γ 0 = g0 at *
      generalize γ 1 = g1 at *
      go_wp2
      go_roundw
      case rel => exact ⟨j + 1, by omega, by rw [HK1.out, hk]; go_num, by rw [HS.out]; exact H1.out, H2.out⟩
      case measure => simp [intOf]; omega
    · have hjm : j = m := by omega
      subst hjm
      have dk : decide (((2 * j : Nat) : Int) < (n : Int)) = false := by simp; omega
      obtain ⟨va, vc, q0, ho⟩ := LV.val HLV.out
      have HT : Hid (prs (ns.take (2 * j)) = prs ns) := by show _ = _; rw [← hm, ← HN.out, List.take_length]
      have HO : Hid _ := ho
      clear ho
      rw [HT.out] at q0 HO
      rw [hk] at dk ⊢
      go_wp2
      go_ret
      exact ⟨_, rfl, OwnQ.base HO.out (by omega), HWR.out⟩
set_option maxRecDepth 100000 in
set_option maxHeartbeats 4000000 in
theorem iend (w : World) (bx : Nat) (v u : Value) (it : Its) (p : List Pnt) (c : Bool) (hlen : it.length ≤ 100000) (hp : p.length ≤ 1000000) (h : DW bx w v it u p) :
    Calls Try.prog 49 #[.pointer (some ⟨bx, 0, none⟩), .bool c] w fun e w' => e = .returned (.tuple #[]) ∧ ∃ v' it', DW bx w' v' it' (.slice none 0 0) [] ∧ it'.map (·.2) = endL (it.map (·.2)) p c ∧ Below bx w w' ∧ ∀ b, b < w.heap.size → b ≠ bx → v.ownBlock ≠ some b → ∀ o, w'.cell? ⟨b, o, none⟩ = w.cell? ⟨b, o, none⟩ := by
  obtain ⟨ua, uc, rfl⟩ := D2.val h.d
  obtain ⟨va, vc, rfl⟩ := D2.vln h.d
  have HD : Hid _ := h
  have q1 := h.c1
  have qf := h.free
  clear h
  by_cases h1 : 1 < p.length
  · have d1 : decide ((1 : Int) < (p.length : Int)) = true := by simp; omega
    have HE : Hid (endL (it.map (·.2)) p c = it.map (·.2) ++ [⟨p, c⟩]) := by show _ = _; unfold endL; rw [if_pos h1]
    clear h1
    generalize hn : p.length = n at *
    generalize hm : it.length = m at *
    go_enter Try.func49, Try.ntmps49
    go_wp2
    refine reg_change (ops' := opsOf 1 Try.f49) (by kernel_rfl) ?_
    have n0 : Nw w w.drew := (Below.refl _ _).drew
    refine ENR.run ⟨bx, va, m, vc, it, ua, n, uc, p, c, w.drew, _⟩ ⟨DW.nw HD.out n0, by rw [hm]; exact hlen, rfl, rfl, rfl⟩ w rfl ?_
    rintro γ w5 ⟨w2, o2, x2, rfl⟩
    simp only at o2 x2 ⊢
    have n1 : Nw w (w.drew.alloc (.cells #[.slice ua n uc, .bool c] 32)) := Nw.trans n0 ((Below.refl _ _).alloc (Nat.le_refl _) _)
    obtain ⟨p1, p2⟩ := DW.lput (DW.nw HD.out n1) x2 o2
    obtain ⟨ga, gn, gc, g1⟩ := OwnQ.slice o2
    have s1 : (w2.setCell ⟨bx, 0, none⟩ (γ 1)).cell? ⟨bx, 1, none⟩ = some (.slice ua n uc) := by
      rw [World.cell?_setCell_other _ _ _ _ (fun e => by injection e; omega)]
      exact (Ext.cell x2 (DW.nw HD.out n1).lt (DW.nw HD.out n1).nev 1).trans (DW.nw HD.out n1).c1
    have sf : ∀ o, (w2.setCell ⟨bx, 0, none⟩ (γ 1)).frozen? ⟨bx, o, none⟩ = false := fun o => by
      rw [World.frozen?_setCell]
      exact (World.frozen?_of_block (a := ⟨bx, o, none⟩) (x2.1.block bx (DW.nw HD.out n1).lt (fun e => (DW.nw HD.out n1).nev e.symm))).trans ((DW.nw HD.out n1).free o)
    have PK : Hid (∀ b, b < w.heap.size → b ≠ bx → (Value.slice va m vc).ownBlock ≠ some b → ∀ o, ((w2.setCell ⟨bx, 0, none⟩ (γ 1)).setCell ⟨bx, 1, none⟩ (.slice none 0 0)).cell? ⟨b, o, none⟩ = w.cell? ⟨b, o, none⟩) := fun b hb hne hv o => by
      rw [World.cell?_setCell_other _ _ _ _ (fun e => by injection e; omega), World.cell?_setCell_other _ _ _ _ (fun e => by injection e; omega), Ext.cell x2 (Nat.lt_of_lt_of_le hb (Below.size n1)) hv o]
      exact (bcell n1).1 b o hb
    have P1 : Hid _ := p1
    have P2 : Hid _ := Below.trans (Below.mono n1 (Nat.le_of_lt (HD.out.lt))) p2
    have hl : (it ++ [(Value.slice ua n uc, (⟨p, c⟩ : LD))]).map (·.2) = it.map (·.2) ++ [⟨p, c⟩] := by simp
    have HL : Hid _ := hl
    clear p1 p2 o2 x2 n1 n0 q1 qf hl
    generalize γ 1 = v' at *
    generalize γ 0 = g0 at *
    rw [g1] at s1 sf P1 P2 PK ⊢
    simp only [Act.put, List.setIfInBounds_toArray, List.set_cons_zero, List.set_cons_succ]
    go_wp2
    go_end0
    exact ⟨rfl, _, _, P1.out, HL.out.trans HE.out.symm, P2.out, PK.out⟩
  · have d1 : decide ((1 : Int) < (p.length : Int)) = false := by simp; omega
    have HE : Hid (endL (it.map (·.2)) p c = it.map (·.2)) := by show _ = _; unfold endL; rw [if_neg h1]
    clear h1
    have HP : Hid _ := DW.drop HD.out
    generalize hn : p.length = n at *
    generalize hm : it.length = m at *
    go_enter Try.func49, Try.ntmps49
    go_wp2
    go_end0
    exact ⟨rfl, _, _, HP.out.1, HE.out.symm, HP.out.2, fun b hb hne _ o => World.cell?_setCell_other _ _ _ _ (fun e => by injection e; omega)⟩
end Go.Proofs.Ytoajjdlgipphiaa
