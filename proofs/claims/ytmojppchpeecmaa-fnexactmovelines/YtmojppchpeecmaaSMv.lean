/-
  Lines moved by the specification; each theorem names its conditions.
-/
import Derived.Test.YtmojppchpeecmaaSMvR
import Derived.Test.YtmojppchpeecmaaMvN
namespace Go.Proofs.Ytmojppchpeecmaa
open Go.ChangeShapes Go.WideShapes Go.ChangeAt Go.RowKit
set_option linter.unusedVariables false

theorem B2.new (w : World) (x y : Value) (t : TypeId) : B2 w.heap.size x y (w.alloc (.cells #[x, y] t)) :=
  ⟨by rw [World.cell?_alloc_at _ _ _ _ rfl]; rfl, by rw [World.cell?_alloc_at _ _ _ _ rfl]; rfl, fun o => World.frozen?_alloc_at _ _ _ _ rfl⟩
/-- A box of six ints. -/
def B6 (b : Nat) (A : Aff) (w : World) : Prop := w.cell? ⟨b, 0, none⟩ = some (.int .i64 A.a) ∧ w.cell? ⟨b, 1, none⟩ = some (.int .i64 A.b) ∧ w.cell? ⟨b, 2, none⟩ = some (.int .i64 A.c) ∧ w.cell? ⟨b, 3, none⟩ = some (.int .i64 A.d) ∧ w.cell? ⟨b, 4, none⟩ = some (.int .i64 A.e) ∧ w.cell? ⟨b, 5, none⟩ = some (.int .i64 A.f)
theorem B6.nw {b : Nat} {A : Aff} {w w' : World} (h : B6 b A w) (k : Nw w w') : B6 b A w' := by
  have hb := World.block_lt_of_cell? w ⟨b, 0, none⟩ h.1
  have e := fun o => (bcell k).1 b o hb
  exact ⟨(e _).trans h.1, (e _).trans h.2.1, (e _).trans h.2.2.1, (e _).trans h.2.2.2.1, (e _).trans h.2.2.2.2.1, (e _).trans h.2.2.2.2.2⟩
theorem B6.new (w : World) (A : Aff) (t : TypeId) : B6 w.heap.size A (w.alloc (.cells #[.int .i64 A.a, .int .i64 A.b, .int .i64 A.c, .int .i64 A.d, .int .i64 A.e, .int .i64 A.f] t)) := by
  have e : ∀ o, (w.alloc (.cells #[.int .i64 A.a, .int .i64 A.b, .int .i64 A.c, .int .i64 A.d, .int .i64 A.e, .int .i64 A.f] t)).cell? ⟨w.heap.size, o, none⟩ = (#[.int .i64 A.a, .int .i64 A.b, .int .i64 A.c, .int .i64 A.d, .int .i64 A.e, .int .i64 A.f] : Array Value)[o]? := fun o => World.cell?_alloc_at _ _ _ _ rfl
  exact ⟨e 0, e 1, e 2, e 3, e 4, e 5⟩
theorem wraps {A : Aff} (hg : A.ok = true) (x y : Int) : IntKind.i64.wrap (fmV A.a x + fmV A.c y) = fmV A.a x + fmV A.c y ∧ IntKind.i64.wrap (fmV A.a x + fmV A.c y + A.e) = fmV A.a x + fmV A.c y + A.e ∧ IntKind.i64.wrap (fmV A.b x + fmV A.d y) = fmV A.b x + fmV A.d y ∧ IntKind.i64.wrap (fmV A.b x + fmV A.d y + A.f) = fmV A.b x + fmV A.d y + A.f := by
  have hb := Aff.ok_bd hg
  have b1 := fmV_bd A.a x
  have b2 := fmV_bd A.c y
  have b3 := fmV_bd A.b x
  have b4 := fmV_bd A.d y
  exact ⟨IntWalk.i64_in _ ⟨by omega, by omega⟩, IntWalk.i64_in _ ⟨by omega, by omega⟩, IntWalk.i64_in _ ⟨by omega, by omega⟩, IntWalk.i64_in _ ⟨by omega, by omega⟩⟩
set_option maxRecDepth 100000 in
set_option maxHeartbeats 8000000 in
theorem sl9move (w : World) (A : Aff) (a : Option Addr) (c : Nat) (l : List LD) (hg : A.ok = true) (hl : l.length ≤ 1048576) (hm : ∀ i, i < l.length → (lnAt l i).pts.length ≤ 600) (hr : Lines w a l) :
    Calls Try.prog 56 #[A.v, .slice a l.length c] w fun e w' => ∃ v it, e = .returned v ∧ OwnLn w' w.heap.size v it ∧ it.map (·.2) = l.map (mvLD A) ∧ Nw w w' := by
  have HR : Hid (Lines w a l) := hr
  have H6 : Hid (∀ i, i < l.length → (lnAt l i).pts.length ≤ 600) := hm
  have HWR : Hid _ := fun x y => wraps hg x y
  clear hg hr hm
  obtain ⟨a1, b1, c1, d1, e1, f1⟩ := A
  unfold Aff.v
  simp only at HWR ⊢
  obtain ⟨A, hA⟩ : ∃ A : Aff, A = ⟨a1, b1, c1, d1, e1, f1⟩ := ⟨_, rfl⟩
  have HAA : Hid (A = ⟨a1, b1, c1, d1, e1, f1⟩) := hA
  have HB0 : Hid (B6 w.heap.size A (w.alloc (.cells #[.int .i64 a1, .int .i64 b1, .int .i64 c1, .int .i64 d1, .int .i64 e1, .int .i64 f1] 31))) := by
    show B6 _ _ _
    rw [hA]
    exact B6.new w ⟨a1, b1, c1, d1, e1, f1⟩ _
  rw [← hA]
  clear hA
  obtain ⟨R, hR⟩ : ∃ R : Nat → List LD, (fun k => (l.take k).map (mvLD A)) = R := ⟨_, rfl⟩
  have HRk : Hid (∀ k, (l.take k).map (mvLD A) = R k) := fun k => by rw [← hR]
  have hRl : l.map (mvLD A) = R l.length := by rw [← HRk.out, List.take_length]
  rw [hRl]
  clear hR hRl
  go_enter Try.func56, Try.ntmps56
  go_wp2
  go_loopw [5, 13] (fun o i wr => ∃ k : Nat, k ≤ l.length ∧ i = .int .i64 (k : Int) ∧ (∃ it : Its, OwnLn wr (w.heap.size + 1) o it ∧ it.map (·.2) = R k) ∧ Nw w wr ∧ B6 w.heap.size A wr ∧ w.heap.size < wr.heap.size) (fun _ i _ => l.length - (intOf i).toNat)
  case atStart =>
    exact ⟨0, Nat.zero_le _, rfl, ⟨[], OwnLn.nil _ _, by rw [← HRk.out]; rfl⟩, (Below.refl _ _).alloc (Nat.le_refl _) _, HB0.out, by simp⟩
  case round =>
    obtain ⟨k, hk, rfl, ⟨it, hot, hit⟩, hw, hb6, hsz⟩ := hrel
    have HW : Hid (Nw w wr) := hw
    have HB6 : Hid (B6 w.heap.size A wr) := hb6
    have HIT : Hid (it.map (·.2) = R k) := hit
    obtain ⟨oa, on, oc, ho⟩ := OwnQ.slice hot.own
    subst ho
    have HOT : Hid (OwnLn wr (w.heap.size + 1) (.slice oa on oc) it) := hot
    clear hw hb6 hit hot
    by_cases hlt : k < l.length
    · rcases Lines.nw HR.out HW.out with h | ⟨b, off, rfl, hb, hc⟩
      · rw [h] at hlt; simp at hlt
      obtain ⟨⟨pa, pc, p0, pp⟩, p1⟩ := hc k hlt
      clear hc
      have HE : Hid (R (k + 1) = R k ++ [mvLD A (lnAt l k)]) := by show _ = _; rw [← HRk.out, ← HRk.out]; exact mapL_step A l k hlt
      have hn6 := H6.out k hlt
      have HLn : Hid (it.length + 1 ≤ 10000000) := by
        show _ ≤ _
        have := congrArg List.length HIT.out
        rw [← HRk.out] at this
        simp at this
        omega
      generalize lnAt l k = x at *
      obtain ⟨ps, cl⟩ := x
      simp only at p0 p1 pp hn6
      have HPP : Hid (Pts wr pa ps) := pp
      clear pp
      obtain ⟨P, hP⟩ : ∃ P : Nat → List Pnt, (fun k => (ps.take k).map (mvP A)) = P := ⟨_, rfl⟩
      have HPk : Hid (∀ k, (ps.take k).map (mvP A) = P k) := fun k => by rw [← hP]
      have HEE : Hid (mvLD A ⟨ps, cl⟩ = ⟨P ps.length, cl⟩) := by show _ = _; rw [← HPk.out, List.take_length]; rfl
      clear hP
      obtain ⟨W1, hW1⟩ : ∃ W1, wr = W1 := ⟨_, rfl⟩
      rw [hW1] at HW HB6 HOT HPP p0 p1 hb hsz ⊢
      clear hW1
      obtain ⟨n, hn⟩ : ∃ n, ps.length = n := ⟨_, rfl⟩
      rw [hn] at HEE p0 hn6
      have HN : Hid (ps.length = n) := hn
      clear hn
      go_wp2
      go_loopw [23] (fun i wr => ∃ j : Nat, j ≤ n ∧ i = .int .i64 (j : Int) ∧ (∃ v, LnB (W1.heap.size + 1) wr v (P j) cl) ∧ Nw W1 wr) (fun i _ => n - (intOf i).toNat)
      case atStart =>
        have hl0 := LnB.new (W1.alloc (.cells #[.slice pa n pc, .bool cl] 55)) 55 cl
        rw [World.size_alloc] at hl0
        have e0 : P 0 = [] := by rw [← HPk.out]; rfl
        exact ⟨0, Nat.zero_le _, rfl, ⟨.slice none 0 0, by rw [e0]; exact hl0⟩, ((Below.refl _ _).alloc (Nat.le_refl _) _).alloc (by simp) _⟩
      case round =>
        obtain ⟨j, hj, rfl, ⟨v, hlb⟩, hw2⟩ := hrel
        obtain ⟨va, vc, hv, _⟩ := hlb.own.pts
        have HLV : Hid ((P j).length ≤ 600) := by show _ ≤ _; rw [← HPk.out]; simp; omega
        generalize (P j).length = vn at hv
        subst hv
        have HL : Hid (LnB (W1.heap.size + 1) wr (.slice va vn vc) (P j) cl) := hlb
        have HW2 : Hid (Nw W1 wr) := hw2
        clear hlb hw2
        by_cases hlt2 : j < n
        · rcases Pts.nw HPP.out HW2.out with h | ⟨b2, off2, rfl, hb2, hc⟩
          · rw [← HN.out, h] at hlt2; simp at hlt2
          obtain ⟨r0, r1⟩ := hc j (by rw [HN.out]; exact hlt2)
          clear hc
          have HE2 : Hid (P (j + 1) = P j ++ [mvP A (ptAt ps j)]) := by show _ = _; rw [← HPk.out, ← HPk.out]; exact map_step A ps j (by rw [HN.out]; exact hlt2)
          rw [HAA.out] at HE2
          generalize ptAt ps j = q at *
          obtain ⟨x, y⟩ := q
          unfold mvP at HE2
          simp only at HE2 r0 r1
          obtain ⟨x1, x2, x3, x4⟩ := HWR.out x y
          have N0 : Hid (Nw wr (wr.alloc (.cells #[.int .i64 x, .int .i64 y] 27))) := (Below.refl _ _).alloc (Nat.le_refl _) _
          have hbx : Hid (B2 wr.heap.size (.int .i64 x) (.int .i64 y) (wr.alloc (.cells #[.int .i64 x, .int .i64 y] 27))) := B2.new wr _ _ _
          go_wp2
          obtain ⟨W2, hW2⟩ : ∃ W2, wr.alloc (.cells #[.int .i64 x, .int .i64 y] 27) = W2 := ⟨_, rfl⟩
          rw [hW2] at N0 hbx ⊢
          clear hW2
          have N2 : Hid (Nw wr W2.drew) := N0.out.drew
          have HL2 : Hid (LnB (W1.heap.size + 1) W2.drew (.slice va vn vc) (P j) cl) := LnB.nw HL.out N2.out
          have h6 : B6 w.heap.size A W2.drew := B6.nw HB6.out (Nw.trans HW2.out N2.out)
          rw [HAA.out] at h6
          obtain ⟨q0, q1, q2, q3, q4, q5⟩ := h6
          refine reg_change (ops' := opsOf 9 Try.f56) (by kernel_rfl) ?_
          refine SX.run ⟨W1.heap.size + 1, w.heap.size, wr.heap.size, a1, b1, c1, d1, e1, f1, x, y, va, vn, vc, P j, cl, W2.drew, _⟩ ⟨HL2.out, by have := HLV.out; show (P j).length + 1 ≤ 1000000; omega, q0, q1, q2, q3, q4, q5, hbx.out.1, hbx.out.2.1, x1, x2, x3, x4, rfl, rfl, rfl, rfl⟩ W2 (Kp.refl _) ?_
          rintro γ w9 ⟨w7, w8, g9, c9, k1, g1, o1, y1, rfl⟩
          simp only at g1 o1 y1 k1 ⊢
          rw [g1] at o1 y1 ⊢
          have HK1 : Hid (Nw wr w7) := Nw.trans N2.out k1.nw
          have HPT : Hid _ := LnB.put (HL2.out.nw k1.nw) y1 o1
          clear o1 y1 k1 g1 q0 q1 q2 q3 q4 q5 x1 x2 x3 x4
          go_wp2
          go_roundw
          case rel =>
            refine ⟨j + 1, by omega, by go_num, ⟨_, by rw [HE2.out]; exact HPT.out.1⟩, ?_⟩
            exact Below.trans (Nw.trans HW2.out HK1.out) (Below.mono HPT.out.2 (Nat.le_succ _))
          case measure => simp [intOf]; omega
        · have hj2 : j = n := by omega
          subst hj2
          have c0 := HL.out.c0
          have c1' := HL.out.c1
          have n1 : Nw wr (wr.alloc (.cells #[.slice va vn vc, .bool cl] 55)) := (Below.refl _ _).alloc (Nat.le_refl _) _
          have k1 : Nw W1 (wr.alloc (.cells #[.slice va vn vc, .bool cl] 55)) := Nw.trans HW2.out n1
          have HU : Hid (OwnP (wr.alloc (.cells #[.slice va vn vc, .bool cl] 55)) W1.heap.size (.slice va vn vc) (⟨P j, cl⟩ : LD).pts) := OwnQ.base (OwnQ.nw HL.out.own n1) (by omega)
          have HQ : Hid (OwnQ 55 (wr.alloc (.cells #[.slice va vn vc, .bool cl] 55)) (w.heap.size + 1) (.slice oa on oc) (vLn it)) := OwnQ.nw HOT.out.own k1
          have H1 : Hid (∀ x ∈ flat2 (vLn [((.slice va vn vc, ⟨P j, cl⟩) : Value × LD)]), x.oneCell' = true) := one_cells HU.out
          have HI : Hid (∀ i, i < (vLn [((.slice va vn vc, ⟨P j, cl⟩) : Value × LD)]).length → (wr.alloc (.cells #[.slice va vn vc, .bool cl] 55)).cell? ⟨wr.heap.size, 0 + i * 2, none⟩ = some (vvAt (vLn [((.slice va vn vc, ⟨P j, cl⟩) : Value × LD)]) i).1 ∧ (wr.alloc (.cells #[.slice va vn vc, .bool cl] 55)).cell? ⟨wr.heap.size, 0 + i * 2 + 1, none⟩ = some (vvAt (vLn [((.slice va vn vc, ⟨P j, cl⟩) : Value × LD)]) i).2) := fun i hi => by
            have : i = 0 := by simp [vLn] at hi; omega
            subst this
            simp [vLn, vvAt]
          have HK : Hid (Nw W1 (wr.alloc (.cells #[.slice va vn vc, .bool cl] 55))) := k1
          have hsz2 : Hid (w.heap.size + 1 ≤ (wr.alloc (.cells #[.slice va vn vc, .bool cl] 55)).heap.size) := by show _ ≤ _; have := Below.size k1; omega
          clear n1 k1
          go_wp2_with (at_builtin; (refine wpl_q 55 32 32 (.slice none 0 0) (.bool false) 32 under_lns under_lns info_line (by decide) rfl (wr.alloc (.cells #[.slice va vn vc, .bool cl] 55)) (.tmp 62) (.tmp 64) rfl (w.heap.size + 1) (.slice oa on oc) (vLn it) (vLn [((.slice va vn vc, ⟨P j, cl⟩) : Value × LD)]) rfl HQ.out wr.heap.size 0 1 1 rfl rfl HI.out H1.out (by rw [vLn_len]; simp) ?cl hsz2.out rfl ?_))
          case cl => rw [vLn_len, vLn_len]; have := HLn.out; simpa using this
          intro g' c' w5 h2 h3
          rw [← vLn_append] at h2
          rw [vLn_len] at h2 h3 ⊢
          have H2 : Hid _ := OwnLn.put HOT.out HK.out (Nat.succ_le_of_lt hsz) HU.out h2 h3
          have hbl : Below w.heap.size (wr.alloc (.cells #[.slice va vn vc, .bool cl] 55)) w5 := Ext.below h3 (fun g e => Nat.le_of_succ_le (OwnQ.lt HQ.out g e).1) (by have := hsz2.out; omega)
          have hwk : Nw w (wr.alloc (.cells #[.slice va vn vc, .bool cl] 55)) := Nw.trans HW.out HK.out
          have N5 : Hid (Nw w w5) := Below.trans hwk hbl
          have B5 : Hid (B6 w.heap.size A w5) := by
            have h6 := B6.nw HB6.out HK.out
            have hne : (Value.slice oa on oc).ownBlock ≠ some w.heap.size := fun e => by have := (OwnQ.lt HQ.out _ e).1; omega
            have e := fun o => Ext.cell h3 (by have := hsz2.out; omega) hne o
            exact ⟨(e _).trans h6.1, (e _).trans h6.2.1, (e _).trans h6.2.2.1, (e _).trans h6.2.2.2.1, (e _).trans h6.2.2.2.2.1, (e _).trans h6.2.2.2.2.2⟩
          have S5 : Hid (w.heap.size < w5.heap.size) := World.block_lt_of_cell? w5 ⟨w.heap.size, 0, none⟩ B5.out.1
          clear h2 h3 hbl hwk
          go_wp2
          go_roundw
          case rel =>
            refine ⟨k + 1, by omega, by go_num, ⟨_, H2.out, ?_⟩, N5.out, B5.out, S5.out⟩
            rw [HE.out, List.map_append, HIT.out, HEE.out]; rfl
          case measure => simp [intOf]; omega
    · have hk2 : k = l.length := by omega
      subst hk2
      go_wp2
      go_ret
      exact ⟨_, it, rfl, OwnLn.base HOT.out (Nat.le_succ _), HIT.out, HW.out⟩
end Go.Proofs.Ytmojppchpeecmaa
