/-
  The bytes of a sheet, by the specification: l12Bytes, SheetBytes; each theorem names its conditions.
-/
import Derived.Test.YthlohbiocfeapaaCvQ
import Derived.Test.YthlohbiocfeapaaOwB
import Derived.Test.YthlohbiocfeapaaRq
namespace Go.Proofs.Ythlohbiocfeapaa
open Go.ChangeShapes Go.WideShapes Go.ChangeAt Go.RowKit
set_option linter.unusedVariables false

theorem lit_lie0 (w : World) (cs : Array Value) (t : TypeId) (zs : List Int) (hc : cs.toList = vals zs) : Lie (w.alloc (.cells cs t)) w.heap.size 0 zs := by
  refine ⟨by simp, fun i hi => ?_⟩
  have e : cs[i]? = some (.int .u8 (zs.getD i 0)) := by
    rw [← Array.getElem?_toList, hc]; simp [vals, hi]
  simp [e]
/-- A color out of a tint. -/
def sbC (x a : Int) : Int := (x * 255 + a / 2) / a
theorem sbC_bd {x a : Int} (h0 : 0 ≤ x) (h1 : x ≤ a) (ha : 1 ≤ a) : 0 ≤ sbC x a ∧ sbC x a ≤ 255 := by
  unfold sbC
  refine ⟨Int.ediv_nonneg (by omega) (by omega), ?_⟩
  have : x * 255 + a / 2 < (256 : Int) * a := by omega
  have := Int.ediv_lt_of_lt_mul (by omega : 0 < a) this
  omega
theorem sbC_t {x a : Int} (h0 : 0 ≤ x) (ha : 1 ≤ a) : (x * 255 + a / 2).tdiv a = sbC x a := by
  unfold sbC
  exact Int.tdiv_eq_ediv_of_nonneg (by omega)
def sb3 (t : Edg) : List Int := [sbC t.ax t.cy, sbC t.ay t.cy, sbC t.bx t.cy]
def sbT (t : Edg) : List Int := if t.cy = 0 then [0, 0, 0, 0] else sb3 t ++ [t.cy]
def sbL (l : List Edg) : Nat → List Int
  | 0 => []
  | k + 1 => sbL l k ++ sbT (edAt l k)
theorem sbT_len (t : Edg) : (sbT t).length = 4 := by unfold sbT sb3; split <;> rfl
theorem sbL_len (l : List Edg) : ∀ k, (sbL l k).length = 4 * k
  | 0 => rfl
  | k + 1 => by rw [sbL, List.length_append, sbL_len l k, sbT_len]; omega
theorem tn_le {t : Edg} (h : tnB t = true) : 0 ≤ t.ax ∧ t.ax ≤ t.cy ∧ 0 ≤ t.ay ∧ t.ay ≤ t.cy ∧ 0 ≤ t.bx ∧ t.bx ≤ t.cy ∧ 0 ≤ t.cy ∧ t.cy ≤ 255 := by
  unfold tnB inN at h
  simp only [Bool.and_eq_true, decide_eq_true_eq] at h
  omega
def t3 (t : Edg) : List Int := [t.ax, t.ay, t.bx]
/-- Bytes of the call's own, beside a tint and its three numbers. -/
structure SbI (W w : World) (gb g3 : Nat) (t : Edg) (v : Value) (zs : List Int) : Prop where
  own : Own w W.heap.size v zs
  q : QB w gb t
  c : ∀ j, j < 3 → w.cell? ⟨g3, j, none⟩ = some (.int .i64 ((t3 t).getD j 0))
  n1 : v.ownBlock ≠ some gb
  n2 : v.ownBlock ≠ some g3
  nw : Nw W w
theorem QB.ext {w w' : World} {b : Nat} {t : Edg} {v v' : Value} (h : QB w b t) (k : Ext v v' w w') (hne : v.ownBlock ≠ some b) : QB w' b t := by
  have hb := h.lt
  have e := fun o => Ext.cell k hb hne o
  exact ⟨(e _).trans h.c0, (e _).trans h.c1, (e _).trans h.c2, (e _).trans h.c3, fun o => (World.frozen?_of_block (w := w) (a := ⟨b, o, none⟩) (k.1.block b hb (fun e => hne e.symm))).trans (h.free o)⟩
theorem SbI.app {W w w1 w2 : World} {gb g3 : Nat} {t : Edg} {v v' : Value} {zs zs' : List Int} (h : SbI W w gb g3 t v zs) (k : Nw w w1) (e : Ext v v' w1 w2) (ho : Own w2 W.heap.size v' zs') : SbI W w2 gb g3 t v' zs' := by
  have hq := h.q.nw k
  have hg3 := World.block_lt_of_cell? w ⟨g3, 0, none⟩ (h.c 0 (by decide))
  have hg3' : g3 < w1.heap.size := Nat.lt_of_lt_of_le hg3 (Below.size k)
  refine ⟨ho, hq.ext e h.n1, fun j hj => ?_, Ext.apart e hq.lt h.n1, Ext.apart e hg3' h.n2, ?_⟩
  · rw [Ext.cell e hg3' h.n2 j]
    exact ((bcell k).1 _ _ hg3).trans (h.c j hj)
  · exact Below.trans (Nw.trans h.nw k) (Ext.below e (fun g eg => (Own.lt h.own g eg).1) (Nat.le_trans (Below.size h.nw) (Below.size k)))
set_option maxRecDepth 100000 in
set_option maxHeartbeats 8000000 in
theorem sbytes (w : World) (p : MD) (a : Option Addr) (c : Nat) (l : List Edg) (hg : ∀ j, j < l.length → tnB (edAt l j) = true) (hl : l.length ≤ 1296) (hr : Edgs w a l) :
    Calls Try.prog 104 #[mskV p (.slice a l.length c)] w fun e w' => ∃ v, e = .returned v ∧ Own w' w.heap.size v (sbL l l.length) ∧ Nw w w' := by
  obtain ⟨pw, ph⟩ := p
  unfold mskV
  simp only
  obtain ⟨W, hW⟩ : ∃ W, w.alloc (.cells #[.int .i64 pw, .int .i64 ph, .slice a l.length c] 57) = W := ⟨_, rfl⟩
  have NW : Hid (Nw w W) := by show Nw w W; rw [← hW]; exact QBnw _ _
  have hs : W.heap.size = w.heap.size + 1 := by rw [← hW]; simp
  have HS : Hid (W.heap.size = w.heap.size + 1) := hs
  have HR : Hid (Edgs W a l) := hr.nw NW.out
  have HG : Hid _ := hg
  have HW : Hid (_ = W) := hW
  obtain ⟨n, hn⟩ : ∃ n, l.length = n := ⟨_, rfl⟩
  have HN : Hid (l.length = n) := hn
  rw [hn] at HG HW hl ⊢
  clear hr hg hW hs hn
  go_enter Try.func104, Try.ntmps104
  go_wp2
  rw [HW.out]
  go_loopw [11, 3] (fun i v wr => ∃ k : Nat, k ≤ n ∧ i = .int .i64 (k : Int) ∧ Own wr W.heap.size v (sbL l k) ∧ Nw W wr) (fun i _ _ => n - (intOf i).toNat)
  case atStart => exact ⟨0, Nat.zero_le _, rfl, Own.nil _ _, Below.refl _ _⟩
  case round =>
    obtain ⟨k, hk, rfl, ho, hw⟩ := hrel
    generalize u3 = v0 at *
    generalize wr = wo at *
    have HO : Hid (Own wo W.heap.size v0 (sbL l k)) := ho
    have HWR : Hid (Nw W wo) := hw
    clear ho hw
    by_cases hlt : k < n
    · obtain ⟨ga, oa, rfl, hca⟩ : ∃ b off, a = some ⟨b, off, none⟩ ∧ _ := by
        rcases Edgs.nw HR.out HWR.out with h | ⟨b, off, e, _, h⟩
        · have := HN.out; rw [h] at this; simp at this; omega
        · exact ⟨b, off, e, h⟩
      obtain ⟨x0, x1, x2, x3⟩ := hca k (by rw [HN.out]; exact hlt)
      have hx := tn_le (HG.out k hlt)
      have HE : Hid (sbL l (k + 1) = sbL l k ++ sbT (edAt l k)) := rfl
      have HLE : Hid ((sbL l k).length + 4 ≤ 9000000) := by show _ ≤ _; rw [sbL_len]; omega
      have HZ : Hid (W.heap.size ≤ wo.heap.size) := Below.size HWR.out
      generalize edAt l k = t at *
      generalize sbL l k = L at *
      obtain ⟨u0, u1, u2, u3'⟩ := t
      simp only at x0 x1 x2 x3 hx
      clear hca
      by_cases hz : u3' = 0
      · have hd : (u3' == 0) = true := by simp [hz]
        have HT : Hid (sbT ⟨u0, u1, u2, u3'⟩ = [0, 0, 0, 0]) := by show _ = _; unfold sbT; rw [if_pos hz]
        clear hz hx
        go_wp2_with (first
          | (at_builtin; (refine wp_app _ rfl _ _ rfl W.heap.size v0 L [0, 0, 0, 0] rfl (Own.nw HO.out (Nw.trans (QBnw _ _) (QBnw _ _))) (wo.heap.size + 1) 0 4 4 rfl rfl ?c1 ?c2 ?c3 ?_))
          | go_in)
        case c1 =>
          have h := lit_lie0 (wo.alloc (.cells #[.int .i64 u0, .int .i64 u1, .int .i64 u2, .int .i64 u3'] 24)) #[.int .u8 0, .int .u8 0, .int .u8 0, .int .u8 0] 5 [0, 0, 0, 0] rfl
          rw [World.size_alloc] at h
          exact h
        case c2 => have := HLE.out; omega
        case c3 => have := HZ.out; simp; omega
        intro v1 w1 h1 h2
        have O1 : Hid (Own w1 W.heap.size v1 (L ++ [0, 0, 0, 0])) := h1
        have N1 : Hid (Nw W w1) := Below.trans (Nw.trans HWR.out (Nw.trans (QBnw _ _) (QBnw _ _))) (Ext.below h2 (fun g e => (Own.lt HO.out g e).1) (by have := HZ.out; simp; omega))
        clear h1 h2
        go_wp2
        go_roundw
        case rel => exact ⟨k + 1, by omega, by go_num, by rw [HE.out, HT.out]; exact O1.out, N1.out⟩
        case measure => simp [intOf]; omega
      · have hd : (u3' == 0) = false := by simp [hz]
        have HT : Hid (sbT ⟨u0, u1, u2, u3'⟩ = sb3 ⟨u0, u1, u2, u3'⟩ ++ [u3']) := by show _ = _; unfold sbT; rw [if_neg hz]
        have HB : Hid (∀ j, j < 3 → 0 ≤ (t3 ⟨u0, u1, u2, u3'⟩).getD j 0 ∧ (t3 ⟨u0, u1, u2, u3'⟩).getD j 0 ≤ u3' ∧ (sb3 ⟨u0, u1, u2, u3'⟩).take (j + 1) = (sb3 ⟨u0, u1, u2, u3'⟩).take j ++ [sbC ((t3 ⟨u0, u1, u2, u3'⟩).getD j 0) u3']) := by
          intro j hj
          rcases (show j = 0 ∨ j = 1 ∨ j = 2 by omega) with rfl | rfl | rfl
          · exact ⟨hx.1, hx.2.1, rfl⟩
          · exact ⟨hx.2.2.1, hx.2.2.2.1, rfl⟩
          · exact ⟨hx.2.2.2.2.1, hx.2.2.2.2.2.1, rfl⟩
        have ha : 1 ≤ u3' ∧ u3' ≤ 255 := by omega
        have HA : Hid (1 ≤ u3' ∧ u3' ≤ 255) := ha
        clear hz hx
        go_wp2
        obtain ⟨W2, hW2⟩ : ∃ W2, (wo.alloc (.cells #[.int .i64 u0, .int .i64 u1, .int .i64 u2, .int .i64 u3'] 24)).alloc (.cells #[.int .i64 u0, .int .i64 u1, .int .i64 u2] 3) = W2 := ⟨_, rfl⟩
        have HI : Hid (SbI W W2 wo.heap.size (wo.heap.size + 1) ⟨u0, u1, u2, u3'⟩ v0 (L ++ (sb3 ⟨u0, u1, u2, u3'⟩).take 0)) := by
          show SbI _ _ _ _ _ _ _
          have hl0 : ∀ g, v0.ownBlock = some g → g < wo.heap.size := fun g e => (Own.lt HO.out g e).2
          rw [← hW2]
          refine ⟨by rw [List.take_zero, List.append_nil]; exact Own.nw HO.out (Nw.trans (QBnw _ _) (QBnw _ _)), (QB.new wo ⟨u0, u1, u2, u3'⟩ _).nw (QBnw _ _), fun j hj => ?_, fun e => ?_, fun e => ?_, Nw.trans HWR.out (Nw.trans (QBnw _ _) (QBnw _ _))⟩
          · have h1 : ∀ (w : World), (w.alloc (.cells #[.int .i64 u0, .int .i64 u1, .int .i64 u2] 3)).cell? ⟨w.heap.size, j, none⟩ = some (.int .i64 ((t3 ⟨u0, u1, u2, u3'⟩).getD j 0)) := fun w => by
              rcases (show j = 0 ∨ j = 1 ∨ j = 2 by omega) with rfl | rfl | rfl <;> simp [t3]
            have h := h1 (wo.alloc (.cells #[.int .i64 u0, .int .i64 u1, .int .i64 u2, .int .i64 u3'] 24))
            rw [World.size_alloc] at h
            exact h
          · have := hl0 _ e; omega
          · have := hl0 _ e; omega
        rw [hW2]
        clear hW2 x0 x1 x2 x3 hd ha
        go_loopw [29, 3] (fun i v2 wr => ∃ j : Nat, j ≤ 3 ∧ i = .int .i64 (j : Int) ∧ SbI W wr wo.heap.size (wo.heap.size + 1) ⟨u0, u1, u2, u3'⟩ v2 (L ++ (sb3 ⟨u0, u1, u2, u3'⟩).take j)) (fun i _ _ => 3 - (intOf i).toNat)
        case atStart => exact ⟨0, by omega, rfl, HI.out⟩
        case round =>
          obtain ⟨j, hj, rfl, hi⟩ := hrel
          have HJ : Hid (SbI W wr wo.heap.size (wo.heap.size + 1) ⟨u0, u1, u2, u3'⟩ u3 (L ++ (sb3 ⟨u0, u1, u2, u3'⟩).take j)) := hi
          have q3 := hi.q.c3
          simp only at q3
          have HZ2 : Hid (W.heap.size ≤ wr.heap.size) := Below.size hi.nw
          by_cases hj3 : j < 3
          · have qc := hi.c j hj3
            obtain ⟨b0, b1, b2⟩ := HB.out j hj3
            obtain ⟨ha0, ha1⟩ := HA.out
            generalize (t3 ⟨u0, u1, u2, u3'⟩).getD j 0 = x at *
            have e1 := sbC_t b0 ha0
            have e2 := sbC_bd b0 b1 ha0
            have HX : Hid (L ++ (sb3 ⟨u0, u1, u2, u3'⟩).take (j + 1) = (L ++ (sb3 ⟨u0, u1, u2, u3'⟩).take j) ++ [sbC x u3']) := by show _ = _; rw [b2, List.append_assoc]
            have HLL : Hid ((L ++ (sb3 ⟨u0, u1, u2, u3'⟩).take j).length + 1 ≤ 9000010) := by
              show _ ≤ _
              have := HLE.out
              rw [List.length_append, List.length_take]
              omega
            generalize sbC x u3' = y at *
            generalize hL2 : L ++ (sb3 ⟨u0, u1, u2, u3'⟩).take j = L2 at *
            clear hi b2 hL2
            have hnz : (u3' == 0) = false := by simp; omega
            have hu8 : IntKind.u8.wrap y = y := by rw [IntKind.wrap_u8]; omega
            go_wp2_with (first
              | (at_builtin; (refine wp_app _ rfl _ _ rfl W.heap.size u3 L2 [y] rfl (Own.nw HJ.out.own (QBnw _ _)) wr.heap.size 0 1 1 rfl rfl ?c1 ?c2 ?c3 ?_))
              | go_in)
            case c1 => exact lit_lie0 wr _ _ [y] rfl
            case c2 => have := HLL.out; omega
            case c3 => have := HZ2.out; simp; omega
            intro v1 w1 h1 h2
            have J1 : Hid (SbI W w1 wo.heap.size (wo.heap.size + 1) ⟨u0, u1, u2, u3'⟩ v1 (L2 ++ [y])) := SbI.app HJ.out (QBnw _ _) h2 h1
            clear h1 h2 q3 qc
            go_wp2
            go_roundw
            case rel => exact ⟨j + 1, by omega, by go_num, by rw [HX.out]; exact J1.out⟩
            case measure => simp [intOf]; omega
          · have hj4 : j = 3 := by omega
            subst hj4
            obtain ⟨ha0, ha1⟩ := HA.out
            have hu8 : IntKind.u8.wrap u3' = u3' := by rw [IntKind.wrap_u8]; omega
            have HX : Hid (L ++ sbT ⟨u0, u1, u2, u3'⟩ = (L ++ (sb3 ⟨u0, u1, u2, u3'⟩).take 3) ++ [u3']) := by show _ = _; rw [HT.out, List.append_assoc]; rfl
            have HLL : Hid ((L ++ (sb3 ⟨u0, u1, u2, u3'⟩).take 3).length + 1 ≤ 9000010) := by
              show _ ≤ _
              have := HLE.out
              rw [List.length_append, List.length_take]
              omega
            generalize hL2 : L ++ (sb3 ⟨u0, u1, u2, u3'⟩).take 3 = L2 at *
            clear hi hL2
            go_wp2_with (first
              | (at_builtin; (refine wp_app _ rfl _ _ rfl W.heap.size u3 L2 [u3'] rfl (Own.nw HJ.out.own (QBnw _ _)) wr.heap.size 0 1 1 rfl rfl ?c1 ?c2 ?c3 ?_))
              | go_in)
            case c1 => exact lit_lie0 wr _ _ [u3'] rfl
            case c2 => have := HLL.out; omega
            case c3 => have := HZ2.out; simp; omega
            intro v1 w1 h1 h2
            have J1 : Hid (SbI W w1 wo.heap.size (wo.heap.size + 1) ⟨u0, u1, u2, u3'⟩ v1 (L2 ++ [u3'])) := SbI.app HJ.out (QBnw _ _) h2 h1
            clear h1 h2 q3
            go_wp2
            go_roundw
            case rel => exact ⟨k + 1, by omega, by go_num, by rw [HE.out, HX.out]; exact J1.out.own, J1.out.nw⟩
            case measure => simp [intOf]; omega
    · have hkn : k = n := by omega
      subst hkn
      go_wp2
      go_ret
      exact ⟨_, rfl, Own.base HO.out (by rw [HS.out]; omega), Nw.trans NW.out HWR.out⟩
end Go.Proofs.Ythlohbiocfeapaa
