/-
  The writer of marks, the program's: open elements are ended; each theorem names its conditions.
-/
import Derived.Test.YtgjnemmkpbkfhaaDoorMtX
import Derived.Deep.QuietTactic
import Derived.BigQuiet
import Derived.Deep.RegionWith
namespace Go.Proofs.YtgjnemmkpbkfhaaDoor
open Go.ChangeShapes Go.WideShapes Go.ChangeAt Go.RowKit
set_option linter.unusedVariables false

/-- The open elements as they lie, the innermost last. -/
def stI (rs : List Nat) : List Int := rs.reverse.map Int.ofNat
theorem stI_len (rs : List Nat) : (stI rs).length = rs.length := by simp [stI]
theorem stI_cons (k : Nat) (rs : List Nat) : stI (k :: rs) = stI rs ++ [(k : Int)] := by simp [stI]
theorem stI_top (k : Nat) (rs : List Nat) : intAt (stI (k :: rs)) rs.length = (k : Int) := by
  rw [stI_cons]
  unfold intAt
  rw [List.getD_eq_getElem?_getD, List.getElem?_append_right (by rw [stI_len]; exact Nat.le_refl _), stI_len, Nat.sub_self]
  rfl
/-- The innermost open element goes. -/
theorem Wr.pop {w : World} {b : Nat} {nv vt : Value} {o : ByteArray} {k g c : Nat} {rs : List Nat} (h : Wr w b nv (.slice (some ⟨g, 0, none⟩) (rs.length + 1) c) vt (stI (k :: rs)) o) : Wr (w.setCell ⟨b, 1, none⟩ (.slice (some ⟨g, 0, none⟩) rs.length c)) b nv (.slice (some ⟨g, 0, none⟩) rs.length c) vt (stI rs) o := by
  have hp : Ins w (b + 1) (.slice (some ⟨g, 0, none⟩) rs.length c) (stI rs) := by
    have h1 := h.op
    unfold Ins at h1 ⊢
    rw [stI_cons, List.length_append, List.map_append, stI_len] at h1
    rw [stI_len]
    exact ownsRow_pop (by simp [stI_len]) h1
  have hne : (Value.slice (some ⟨g, 0, none⟩) rs.length c).ownBlock ≠ some b := h.vo_ne
  refine ⟨by simpa [World.setCell] using h.lt, fun x => by rw [World.frozen?_setCell]; exact h.free x, ?_, ?_, ?_, hp.far b 1 _ hne, h.out.far b 1 _ h.vt_ne, h.apart⟩
  · rw [World.cell?_setCell_other _ _ _ _ (fun e => by injection e; omega)]; exact h.c0
  · exact World.cell?_setCell_same w _ _ h.c1
  · rw [World.cell?_setCell_other _ _ _ _ (fun e => by injection e; omega)]; exact h.c2
theorem Tch.nw {b : Nat} {v0 v1 : Value} {w0 w1 w2 : World} (h : Tch b v0 v1 w0 w1) (k : Nw w1 w2) (hb : b < w0.heap.size) : Tch b v0 v1 w0 w2 := by
  have hs := Below.size h.below
  exact ⟨Below.trans h.below (Below.mono k (by omega)), fun i hi hb hv => by rw [Below.block k i (by omega), h.block i hi hb hv], h.own⟩
theorem Tch.setb {b : Nat} {v0 v1 : Value} {w0 w1 : World} (h : Tch b v0 v1 w0 w1) (o : Nat) (u : Value) : Tch b v0 v1 w0 (w1.setCell ⟨b, o, none⟩ u) :=
  ⟨Below.setCell h.below (Nat.le_refl _) _, fun i hi hb hv => by rw [Below.heap_setCell _ _ _ _ (by show i ≠ b; exact hb)]; exact h.block i hi hb hv, h.own⟩
theorem drewN_nw (w : World) (n : Nat) : Nw w (w.drewN n) := ((Kp.refl w).drewN n).nw
def lenO (w : World) (b : Nat) : Nat := match w.cell? ⟨b, 1, none⟩ with | some (.slice _ n _) => n | _ => 0
theorem catN_three (x y z : ByteArray) : catN [x, y, z] 3 = x ++ y ++ z := by show ByteArray.empty ++ x ++ y ++ z = _; rw [ByteArray.empty_append]
theorem closeP_size (l : List ND) (up : Int) : ∀ rs o, o.size ≤ (closeP l up rs o).2.size := by
  intro rs
  induction rs with
  | nil => intro o; exact Nat.le_refl _
  | cons k rs ih =>
    intro o
    rw [closeP]
    split
    · exact Nat.le_refl _
    · have := ih (o ++ endT l k)
      rw [ByteArray.size_append] at this
      omega
set_option maxHeartbeats 4000000 in
set_option maxRecDepth 100000 in
theorem iclose (w : World) (b : Nat) (a : Option Addr) (c : Nat) (l : List ND) (vo vt0 : Value) (rs : List Nat) (o : ByteArray) (up : Int) (hl : l.length ≤ 60) (hrs : ∀ k, k ∈ rs → k < l.length) (hrl : rs.length ≤ 60) (hz : Small l) (h : Wr w b (.slice a l.length c) vo vt0 (stI rs) o) (hN : ∀ W, Below b w W → Nodes W a l) (hsz : (closeP l up rs o).2.size ≤ 9000000) :
    Calls Tryd.prog 39 #[.pointer (some ⟨b, 0, none⟩), .int .i64 up] w fun e w' => e = .returned (.tuple #[]) ∧ ∃ vo' vt', Wr w' b (.slice a l.length c) vo' vt' (stI (closeP l up rs o).1) (closeP l up rs o).2 ∧ Tch b vt0 vt' w w' := by
  have hbl : b < w.heap.size := h.lt
  have HBL : Hid (b < w.heap.size) := hbl
  clear hbl
  have H0 : Hid (Wr w b (.slice a l.length c) vo vt0 (stI rs) o) := h
  have HN : Hid (∀ W, Below b w W → Nodes W a l) := hN
  have HZ : Hid (Small l) := hz
  have HRS : Hid (∀ k, k ∈ rs → k < l.length) := hrs
  obtain ⟨Z, hZ⟩ : ∃ Z, Z = closeP l up rs o := ⟨_, rfl⟩
  rw [← hZ] at hsz ⊢
  have HZ0 : Hid (closeP l up rs o = Z) := hZ.symm
  clear h hN hz hrs hZ
  go_enter Tryd.func39, Tryd.ntmps39
  go_wp2
  go_loopw [] (fun wr => ∃ (rs : List Nat) (o : ByteArray) (vo vt : Value), Wr wr b (.slice a l.length c) vo vt (stI rs) o ∧ closeP l up rs o = Z ∧ (∀ k, k ∈ rs → k < l.length) ∧ rs.length ≤ 60 ∧ Tch b vt0 vt w wr) (fun wr => lenO wr b)
  case atStart => exact ⟨rs, o, vo, vt0, H0.out, HZ0.out, HRS.out, hrl, Tch.refl _ _ _⟩
  case round =>
    obtain ⟨rs, o, vo, vt, hwr, hcl, hin, hlen, hbw⟩ := hrel
    have HW : Hid (Wr wr b (.slice a l.length c) vo vt (stI rs) o) := hwr
    have HC : Hid (closeP l up rs o = Z) := hcl
    have HB : Hid (Tch b vt0 vt w wr) := hbw
    have c0 := hwr.c0
    have c1 := hwr.c1
    clear HZ0 H0 HRS
    cases rs with
    | nil =>
      have HX : Hid (Z = ([], o)) := HC.out.symm
      rcases hwr.op.lay with ⟨rfl, _⟩ | ⟨g, gc, rfl, _, _⟩
      · clear hwr hcl hin hbw
        go_wp2
        go_quiet (fail)
        go_wp2
        go_end0
        exact ⟨rfl, _, vt, by rw [HX.out]; exact HW.out.nw (drewN_nw _ _), HB.out.nw (drewN_nw _ _) HBL.out⟩
      · have hl0 : (stI []).length = 0 := rfl
        rw [hl0] at c1
        clear hwr hcl hin hbw hl0
        go_wp2
        go_quiet (fail)
        go_wp2
        go_end0
        exact ⟨rfl, _, vt, by rw [HX.out]; exact HW.out.nw (drewN_nw _ _), HB.out.nw (drewN_nw _ _) HBL.out⟩
    | cons k rs =>
      have hkl : k < l.length := hin k (by simp)
      have HIN : Hid (∀ x, x ∈ rs → x < l.length) := fun x hx => hin x (by simp [hx])
      rcases hwr.op.lay with ⟨_, h0⟩ | ⟨g, gc, rfl, hgb, hlay⟩
      · rw [stI_cons] at h0; simp at h0
      have hsl : (stI (k :: rs)).length = rs.length + 1 := by rw [stI_len]; rfl
      rw [hsl] at c1 HW
      have ct := hlay.2.1 rs.length (by omega)
      rw [stI_top] at ct
      have hm : rs.length ≤ 59 := by simp only [List.length_cons] at hlen; omega
      have hwm : IntKind.i64.wrap ((rs.length : Nat) : Int) = ((rs.length : Nat) : Int) := IntWalk.i64_in _ (by omega)
      have HL : Hid (lenO wr b = rs.length + 1) := by show _ = _; unfold lenO; rw [c1]
      clear hin hlen hgb hlay hsl hwr hcl
      have HCL : Hid (closeP l up (k :: rs) o = if (k : Int) = up then (k :: rs, o) else closeP l up rs (o ++ endT l k)) := rfl
      generalize hM : rs.length = M at *
      by_cases hku : (k : Int) = up
      · have HX : Hid (Z = (k :: rs, o)) := by show _ = _; rw [← HC.out, HCL.out, if_pos hku]
        subst hku
        clear hbw
        go_wp2
        go_quiet (fail)
        go_wp2
        go_end0
        exact ⟨rfl, _, vt, by rw [HX.out]; exact HW.out.nw (drewN_nw _ _), HB.out.nw (drewN_nw _ _) HBL.out⟩
      · have HC2 : Hid (closeP l up rs (o ++ endT l k) = Z) := by show _ = _; rw [← HC.out, HCL.out, if_neg hku]
        have hku2 : ((k : Int) == up) = false := beq_eq_false_iff_ne.2 hku
        have hes : (o ++ endT l k).size ≤ 9000000 := by
          have := closeP_size l up rs (o ++ endT l k)
          rw [HC2.out] at this
          omega
        rcases HN.out wr HB.out.below with h | ⟨nb, no, rfl, hnb, hnc⟩
        · rw [h] at hkl; simp at hkl
        have q0 : wr.cell? ⟨nb, no + k * 4, none⟩ = some (.string (nmAt l k)) := (hnc k hkl).1
        have hkI : (k : Int) < l.length := by omega
        have hgl : g < wr.heap.size := HW.out.vo_lt g rfl
        clear hnc hbw
        go_wp2
        go_quiet (fail)
        go_wp2
        obtain ⟨w1, hw1⟩ : ∃ w1, w1 = wr.drewN nq := ⟨_, rfl⟩
        rw [← hw1]
        have K1 : Hid (Nw wr w1) := by show Nw wr w1; rw [hw1]; exact drewN_nw _ _
        have W1 : Hid (Wr w1 b (.slice (some ⟨nb, no, none⟩) l.length c) (.slice (some ⟨g, 0, none⟩) (M + 1) gc) vt (stI (k :: rs)) o) := HW.out.nw K1.out
        have B1 : Hid (Tch b vt0 vt w w1) := HB.out.nw K1.out HBL.out
        replace c0 := ((bcell K1.out).1 _ _ HW.out.lt).trans c0
        replace c1 := ((bcell K1.out).1 _ _ HW.out.lt).trans c1
        replace ct := ((bcell K1.out).1 _ _ hgl).trans ct
        replace q0 := ((bcell K1.out).1 _ _ hnb).trans q0
        have HCw : ∀ W, Nw w1 W → W.cell? ⟨w1.heap.size, 0, none⟩ = some (.string ⟨#[60, 47]⟩) → W.cell? ⟨w1.heap.size, 1, none⟩ = some (.string (nmAt l k)) → W.cell? ⟨w1.heap.size, 2, none⟩ = some (.string ⟨#[62]⟩) → w1.heap.size < W.heap.size → Hid (Calls Tryd.prog 86 #[.pointer (some ⟨b, 0, none⟩), .slice (some ⟨w1.heap.size, 0, none⟩) 3 3] W fun e w' => e = .returned (.tuple #[]) ∧ ∃ vt', Wr w' b (.slice (some ⟨nb, no, none⟩) l.length c) (.slice (some ⟨g, 0, none⟩) (M + 1) gc) vt' (stI (k :: rs)) (o ++ endT l k) ∧ Tch b vt0 vt' w w') := by
          intro W hW h0 h1 h2 hz
          have hcat : catN [⟨#[60, 47]⟩, nmAt l k, ⟨#[62]⟩] 3 = endT l k := catN_three _ _ _
          have := iwrite W b (.slice (some ⟨nb, no, none⟩) l.length c) (.slice (some ⟨g, 0, none⟩) (M + 1) gc) vt (stI (k :: rs)) o w1.heap.size 3 [⟨#[60, 47]⟩, nmAt l k, ⟨#[62]⟩] (W1.out.nw hW) ⟨hz, fun i hi => ?_⟩ (by have := W1.out.lt; omega) (fun e => by have := W1.out.vt_lt _ e; omega) (by simp) (by show o.size + (catN _ 3).size ≤ _; rw [hcat, ← ByteArray.size_append]; exact hes)
          · have h3 : ([⟨#[60, 47]⟩, nmAt l k, ⟨#[62]⟩] : List ByteArray).length = 3 := rfl
            rw [h3, hcat] at this
            exact this.mono fun e w' h => ⟨h.1, by obtain ⟨v9, h8, h9⟩ := h.2; exact ⟨v9, h8, B1.out.trans (Nw.tch hW h9 W1.out.lt)⟩⟩
          · rcases (show i = 0 ∨ i = 1 ∨ i = 2 by simp at hi; omega) with rfl | rfl | rfl
            · exact h0
            · exact h1
            · exact h2
        clear hw1 HW HB
        generalize nmAt l k = nm at *
        go_region_with (go_at_call 86; refine Calls.mono (HCw _ (by first | exact ((Below.refl _ _).alloc (Nat.le_refl _) _).drew | exact ((Below.refl _ _).drew.alloc (Nat.le_refl _) _)) (by simp) (by simp) (by simp) (by simp)).out ?_; rintro e w2 ⟨rfl, v2, hw2, k2⟩)
        all_goals
          have HW2 : Hid (Wr w2 b (.slice (some ⟨nb, no, none⟩) l.length c) (.slice (some ⟨g, 0, none⟩) (M + 1) gc) v2 (stI (k :: rs)) (o ++ endT l k)) := hw2
          have HP : Hid (Wr (w2.setCell ⟨b, 1, none⟩ (.slice (some ⟨g, 0, none⟩) M gc)) b (.slice (some ⟨nb, no, none⟩) l.length c) (.slice (some ⟨g, 0, none⟩) M gc) v2 (stI rs) (o ++ endT l k)) := by
            show Wr _ _ _ _ _ _ _
            have h9 := hw2
            rw [← hM] at h9 ⊢
            exact h9.pop
          have HB2 : Hid (Tch b vt0 v2 w (w2.setCell ⟨b, 1, none⟩ (.slice (some ⟨g, 0, none⟩) M gc))) := k2.setb 1 _
          have HLN : Hid (lenO (w2.setCell ⟨b, 1, none⟩ (.slice (some ⟨g, 0, none⟩) M gc)) b = M) := by show _ = _; unfold lenO; rw [HP.out.c1]
          have hgc : M + 1 ≤ gc := by
            rcases hw2.op.2 with ⟨e, _⟩ | ⟨g9, c9, cu, e, _, _, h9, _⟩
            · cases e
            · injection e with _ e2 e3
              subst e3
              rw [stI_len] at h9
              simp only [List.length_cons] at h9
              omega
          replace c1 := hw2.c1
          have f2 := hw2.free
          clear hw2 k2 HCw c0 ct q0
          go_wp2
          go_roundw
          case rel => exact ⟨rs, o ++ endT l k, _, v2, HP.out, HC2.out, HIN.out, by omega, HB2.out⟩
          case measure => have h1 := HLN.out; have h2 := HL.out; rw [h1, h2]; omega
end Go.Proofs.YtgjnemmkpbkfhaaDoor
