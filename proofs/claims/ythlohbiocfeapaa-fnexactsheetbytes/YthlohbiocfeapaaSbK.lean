/-
  The bytes of a sheet, by the program: SheetBytes; each theorem names its conditions.
-/
import Derived.Test.YthlohbiocfeapaaSbJ
namespace Go.Proofs.Ythlohbiocfeapaa
open Go.ChangeShapes Go.WideShapes Go.ChangeAt Go.RowKit
set_option linter.unusedVariables false

theorem run_mk0 (n : Nat) (hn : n ≤ 1000000) (w : World) :
    (Instr.makeSlice 22 (.int .i64 0) (.int .i64 (4 * (n : Int)))).run Try.prog w = .ok (.slice (some ⟨w.heap.size, 0, none⟩) 0 (4 * n)) (w.alloc (.cells (madeCells #[.int .u8 0] (4 * n)) 5)) := by
  obtain ⟨i0, hi, hz0, hz1, hz2⟩ := info_parts Try.info5
  have hr := run_make (P := Try.prog) w 22 5 i0 (.int .u8 0) Try.underlying22 hi hz0 .i64 .i64 0 (4 * (n : Int)) (by omega) (by omega) (by rw [hz2]; omega) (by omega)
  rw [hz1] at hr
  have e : (4 * (n : Int)).toNat = 4 * n := by omega
  have hcs : (Value.int .u8 0).cells = #[.int .u8 0] := rfl
  rw [e, hcs] at hr
  simpa using hr
set_option maxRecDepth 100000 in
set_option maxHeartbeats 8000000 in
theorem ishB (w : World) (p : MD) (a : Option Addr) (c : Nat) (l : List Edg) (hl : l.length ≤ 1048576) (hr : Edgs w a l) :
    Calls Try.prog 53 #[mskV p (.slice a l.length c)] w fun e w' => ∃ v, e = .returned (.tuple #[v, .bool (shB p l)]) ∧ Own w' w.heap.size v (sbV p l) ∧ Nw w w' := by
  have HL : Hid (∀ w : World, _) := fun w => ilayerOf w p a l.length c
  have H1 : Hid (∀ w1, Edgs w1 a l → _) := fun w1 h => iisGood w1 p a c l hl h
  obtain ⟨W, hW⟩ : ∃ W, w.alloc (.cells #[.int .i64 p.w, .int .i64 p.h, .slice a l.length c] 57) = W := ⟨_, rfl⟩
  have NW : Hid (Nw w W) := by show Nw w W; rw [← hW]; exact QBnw _ _
  have HR : Hid (Edgs w a l) := hr
  have HW : Hid (_ = W) := hW
  clear hW hr
  unfold sbV
  cases b : shB p l with
  | false =>
    rw [b] at H1
    simp only [Bool.false_eq_true, if_false]
    obtain ⟨pw, ph⟩ := p
    unfold mskV at HL H1 ⊢
    simp only at HL H1 HW ⊢
    generalize l.length = n at *
    clear b
    go_enter Try.func53, Try.ntmps53
    go_wp2_with fail
    rw [HW.out]
    refine Calls.mono (HL.out _) ?_
    rintro e w1 ⟨rfl, k1⟩
    obtain ⟨W1, hW1⟩ : ∃ W1, w1.alloc (.cells #[.int .i64 pw, .int .i64 ph, .slice a n c] 114) = W1 := ⟨_, rfl⟩
    have N1 : Hid (Nw w W1) := by show Nw _ _; rw [← hW1]; exact Nw.trans NW.out (Nw.trans k1.nw (QBnw _ _))
    have HW1 : Hid (_ = W1) := hW1
    clear k1 hW1
    go_wp2_with fail
    rw [HW1.out]
    refine Calls.mono (H1.out _ (Edgs.nw HR.out N1.out)) ?_
    rintro e w2 ⟨rfl, k2⟩
    have N2 : Hid (Nw w w2) := Nw.trans N1.out k2.nw
    clear k2
    go_wp2
    go_ret2
    exact ⟨_, rfl, Own.nil _ _, N2.out⟩
  | true =>
    rw [b] at H1
    simp only [if_true]
    have HG : Hid (∀ j, j < l.length → tnB (edAt l j) = true) := fun j hj => shB_at b j hj
    have hle := shB_len b
    have hsz := (shB_some b).2.2.1
    have hm := sd_mul (shB_some b).1 (shB_some b).2.1
    obtain ⟨pw, ph⟩ := p
    simp only at hsz hm
    have H2 : Hid (∀ w, _) := fun w => icount w pw ph hm
    rw [← hsz] at H2
    unfold mskV at HL H1 ⊢
    simp only at HL H1 HW ⊢
    obtain ⟨n, hn⟩ : ∃ n, l.length = n := ⟨_, rfl⟩
    have HN : Hid (l.length = n) := hn
    rw [hn] at HG HL H1 H2 HW hl hle ⊢
    clear b hsz hm hn
    have hmk := run_mk0 n (by omega)
    go_enter Try.func53, Try.ntmps53
    go_wp2_with fail
    rw [HW.out]
    refine Calls.mono (HL.out _) ?_
    rintro e w1 ⟨rfl, k1⟩
    obtain ⟨W1, hW1⟩ : ∃ W1, w1.alloc (.cells #[.int .i64 pw, .int .i64 ph, .slice a n c] 114) = W1 := ⟨_, rfl⟩
    have BL : Hid (MB W1 w1.heap.size ⟨pw, ph⟩ (.slice a n c)) := by show MB _ _ _ _; rw [← hW1]; exact MB.new w1 ⟨pw, ph⟩ _ _
    have N1 : Hid (Nw w W1) := by show Nw _ _; rw [← hW1]; exact Nw.trans NW.out (Nw.trans k1.nw (QBnw _ _))
    have HW1 : Hid (_ = W1) := hW1
    clear k1 hW1
    go_wp2_with fail
    rw [HW1.out]
    refine Calls.mono (H1.out _ (Edgs.nw HR.out N1.out)) ?_
    rintro e w2 ⟨rfl, k2⟩
    have N2 : Hid (Nw W1 w2) := k2.nw
    clear k2
    obtain ⟨l0, l1, l2⟩ := MB.nw BL.out N2.out
    simp only at l0 l1 l2
    go_wp2_with fail
    refine Calls.mono (H2.out _) ?_
    rintro e w3 ⟨rfl, k3⟩
    have N3 : Hid (Nw W1 w3) := Nw.trans N2.out k3.nw
    clear k3 l0 l1 l2
    obtain ⟨W4, hW4⟩ : ∃ W4, w3.alloc (.cells (madeCells #[.int .u8 0] (4 * n)) 5) = W4 := ⟨_, rfl⟩
    have N4 : Hid (Nw W1 W4) := by show Nw _ _; rw [← hW4]; exact Nw.trans N3.out (QBnw _ _)
    have O4 : Hid (Own W4 W1.heap.size (.slice (some ⟨w3.heap.size, 0, none⟩) 0 (4 * n)) []) := by
      show Own _ _ _ _
      rw [← hW4]
      exact World.ownsRow_made w3 _ (4 * n) (Below.size N3.out) (by unfold maxLen; omega) (by simp [madeCells])
    obtain ⟨l0, l1, l2⟩ := MB.nw BL.out N4.out
    simp only at l0 l1 l2
    rw [← hW4] at l0 l1 l2
    have HW4 : Hid (_ = W4) := hW4
    clear hW4
    go_wp2
    rw [HW4.out]
    clear l0 l1 l2 hmk
    go_loopw [22, 5] (fun i v wr => ∃ k : Nat, k ≤ n ∧ i = .int .i64 (k : Int) ∧ Own wr W1.heap.size v (sbL l k) ∧ Nw W1 wr) (fun i _ _ => n - (intOf i).toNat)
    case atStart => exact ⟨0, Nat.zero_le _, rfl, O4.out, N4.out⟩
    case round =>
      obtain ⟨k, hk, rfl, ho, hw⟩ := hrel
      have HO : Hid (Own wr W1.heap.size u5 (sbL l k)) := ho
      have HWR : Hid (Nw W1 wr) := hw
      clear ho hw
      by_cases hlt : k < n
      · obtain ⟨ga, oa, rfl, hca⟩ : ∃ b off, a = some ⟨b, off, none⟩ ∧ _ := by
          rcases Edgs.nw HR.out (Nw.trans N1.out HWR.out) with h | ⟨b, off, e, _, h⟩
          · have := HN.out; rw [h] at this; simp at this; omega
          · exact ⟨b, off, e, h⟩
        obtain ⟨x0, x1, x2, x3⟩ := hca k (by rw [HN.out]; exact hlt)
        have hx := tn_le (HG.out k hlt)
        have hwb := wa_bd (HG.out k hlt)
        have HWA : Hid (∀ w, _) := fun w => iwa w (edAt l k) (HG.out k hlt)
        have HE : Hid (sbL l (k + 1) = sbL l k ++ sbT (edAt l k)) := rfl
        rw [sbT_wa] at HE
        have HLE : Hid ((sbL l k).length + 4 ≤ 9000000) := by show _ ≤ _; rw [sbL_len]; omega
        have HZ : Hid (W1.heap.size ≤ wr.heap.size) := Below.size HWR.out
        generalize edAt l k = t at *
        generalize sbL l k = L at *
        obtain ⟨u0, u1, u2, u3⟩ := t
        unfold edV at HWA
        simp only at x0 x1 x2 x3 hx hwb HWA HE
        generalize wa u0 u3 = y0 at *
        generalize wa u1 u3 = y1 at *
        generalize wa u2 u3 = y2 at *
        have a0 : IntKind.u8.wrap y0 = y0 := by rw [IntKind.wrap_u8]; omega
        have a1 : IntKind.u8.wrap y1 = y1 := by rw [IntKind.wrap_u8]; omega
        have a2 : IntKind.u8.wrap y2 = y2 := by rw [IntKind.wrap_u8]; omega
        have a3 : IntKind.u8.wrap u3 = u3 := by rw [IntKind.wrap_u8]; omega
        clear hca
        go_wp2_with fail
        refine Calls.mono (HWA.out _) ?_
        rintro e w5 ⟨rfl, k5⟩
        have N5 : Hid (Nw wr w5) := Nw.trans (QBnw _ _) k5.nw
        have P5 : Hid (QB w5 wr.heap.size ⟨u0, u1, u2, u3⟩) := (QB.new wr ⟨u0, u1, u2, u3⟩ _).nw k5.nw
        have q3 := (QB.nw P5.out (QBnw w5 (.cells #[.int .i64 y0, .int .i64 y1, .int .i64 y2] 41))).c3
        simp only at q3
        have HZ5 : Hid (W1.heap.size ≤ w5.heap.size) := Nat.le_trans HZ.out (Below.size N5.out)
        clear k5 x0 x1 x2 x3
        go_wp2_with (first
          | (at_builtin; (refine wp_app _ rfl _ _ rfl W1.heap.size u5 L [y0, y1, y2, u3] rfl (Own.nw HO.out (Nw.trans N5.out (Nw.trans (QBnw _ _) (QBnw _ _)))) (w5.heap.size + 1) 0 4 4 rfl rfl ?c1 ?c2 ?c3 ?_))
          | go_in)
        case c1 =>
          have h := lit_lie0 (w5.alloc (.cells #[.int .i64 y0, .int .i64 y1, .int .i64 y2] 41)) #[.int .u8 y0, .int .u8 y1, .int .u8 y2, .int .u8 u3] 5 [y0, y1, y2, u3] rfl
          rw [World.size_alloc] at h
          exact h
        case c2 => have := HLE.out; omega
        case c3 => have := HZ5.out; simp; omega
        intro v1 w6 h1 h2
        have O6 : Hid (Own w6 W1.heap.size v1 (L ++ [y0, y1, y2, u3])) := h1
        have N6 : Hid (Nw W1 w6) := Below.trans (Nw.trans HWR.out (Nw.trans N5.out (Nw.trans (QBnw _ _) (QBnw _ _)))) (Ext.below h2 (fun g e => (Own.lt HO.out g e).1) (by have := HZ5.out; simp; omega))
        clear h1 h2 q3
        go_wp2
        go_roundw
        case rel => exact ⟨k + 1, by omega, by go_num, by rw [HE.out]; exact O6.out, N6.out⟩
        case measure => simp [intOf]; omega
      · have hkn : k = n := by omega
        subst hkn
        go_wp2
        go_ret2
        exact ⟨_, rfl, Own.base HO.out (Below.size N1.out), Nw.trans N1.out HWR.out⟩
end Go.Proofs.Ythlohbiocfeapaa
