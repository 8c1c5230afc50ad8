/-
  The bytes of a sheet, by the program: SheetBytes, and by the specification; each theorem names its conditions.
-/
import Derived.Test.YthlohbiocfeapaaSb
import Derived.Test.YthlohbiocfeapaaShI
namespace Go.Proofs.Ythlohbiocfeapaa
open Go.ChangeShapes Go.WideShapes Go.ChangeAt Go.RowKit
set_option linter.unusedVariables false

/-- What SheetBytes answers. -/
def sbV (p : MD) (l : List Edg) : List Int := if shB p l then sbL l l.length else []
theorem sbV_len (p : MD) (l : List Edg) : (sbV p l).length ≤ 5184 := by
  unfold sbV
  split
  · rename_i h
    rw [sbL_len]
    have := shB_len h
    omega
  · simp
set_option maxHeartbeats 2000000 in
theorem sshB (w : World) (p : MD) (a : Option Addr) (c : Nat) (l : List Edg) (hl : l.length ≤ 1048576) (hr : Edgs w a l) :
    Calls Try.prog 52 #[mskV p (.slice a l.length c)] w fun e w' => ∃ v, e = .returned (.tuple #[v, .bool (shB p l)]) ∧ Own w' w.heap.size v (sbV p l) ∧ Nw w w' := by
  have H1 : Hid (∀ w1, Edgs w1 a l → _) := fun w1 h => sgoodSh w1 p a c l hl h
  have H2 : Hid (shB p l = true → ∀ w1, Edgs w1 a l → _) := fun hb w1 h => sbytes w1 p a c l (fun j hj => shB_at hb j hj) (shB_len hb) h
  obtain ⟨W, hW⟩ : ∃ W, w.alloc (.cells #[.int .i64 p.w, .int .i64 p.h, .slice a l.length c] 57) = W := ⟨_, rfl⟩
  have NW : Hid (Nw w W) := by show Nw w W; rw [← hW]; exact QBnw _ _
  have HP : Hid (MB W w.heap.size p (.slice a l.length c)) := by show MB _ _ _ _; rw [← hW]; exact MB.new w p _ _
  have HR : Hid (Edgs w a l) := hr
  have HW : Hid (_ = W) := hW
  clear hW hr
  unfold sbV
  cases b : shB p l with
  | false =>
    rw [b] at H1
    simp only [Bool.false_eq_true, if_false]
    obtain ⟨pw, ph⟩ := p
    unfold mskV at H1 ⊢
    simp only at H1 HW ⊢
    generalize l.length = n at *
    clear H2 b
    go_enter Try.func52, Try.ntmps52
    go_wp2_with fail
    rw [HW.out]
    refine Calls.mono (H1.out _ (Edgs.nw HR.out NW.out)) ?_
    rintro e w1 ⟨rfl, k1⟩
    have N1 : Hid (Nw w w1) := Nw.trans NW.out k1.nw
    clear k1
    go_wp2
    go_ret2
    exact ⟨_, rfl, Own.nil _ _, N1.out⟩
  | true =>
    rw [b] at H1
    have H3 : Hid _ := H2.out b
    simp only [if_true]
    obtain ⟨pw, ph⟩ := p
    unfold mskV at H1 H3 ⊢
    simp only at H1 H3 HW HP ⊢
    generalize sbL l l.length = L at *
    generalize l.length = n at *
    clear H2 b
    go_enter Try.func52, Try.ntmps52
    go_wp2_with fail
    rw [HW.out]
    refine Calls.mono (H1.out _ (Edgs.nw HR.out NW.out)) ?_
    rintro e w1 ⟨rfl, k1⟩
    have N1 : Hid (Nw W w1) := k1.nw
    clear k1
    obtain ⟨q0, q1, q2⟩ := MB.nw HP.out N1.out
    simp only at q0 q1 q2
    go_wp2_with fail
    refine Calls.mono (H3.out _ (Edgs.nw HR.out (Nw.trans NW.out N1.out))) ?_
    rintro e w2 ⟨v, rfl, ho, n2⟩
    have O2 : Hid (Own w2 w.heap.size v L) := Own.base ho (by have := Below.size NW.out; have := Below.size N1.out; omega)
    have N2 : Hid (Nw w w2) := Nw.trans NW.out (Nw.trans N1.out n2)
    clear ho n2 q0 q1 q2
    go_wp2
    go_ret2
    exact ⟨_, rfl, O2.out, N2.out⟩
def wa (x a : Int) : Int := if a = 0 then 0 else sbC x a
theorem sbT_wa (t : Edg) : sbT t = [wa t.ax t.cy, wa t.ay t.cy, wa t.bx t.cy, t.cy] := by
  unfold sbT wa sb3
  by_cases h : t.cy = 0
  · rw [if_pos h, if_pos h, if_pos h, if_pos h, h]
  · rw [if_neg h, if_neg h, if_neg h, if_neg h]; rfl
theorem wa_bd {t : Edg} (h : tnB t = true) : (0 ≤ wa t.ax t.cy ∧ wa t.ax t.cy ≤ 255) ∧ (0 ≤ wa t.ay t.cy ∧ wa t.ay t.cy ≤ 255) ∧ (0 ≤ wa t.bx t.cy ∧ wa t.bx t.cy ≤ 255) := by
  have := tn_le h
  unfold wa
  by_cases h0 : t.cy = 0
  · rw [if_pos h0, if_pos h0, if_pos h0]; omega
  · rw [if_neg h0, if_neg h0, if_neg h0]
    exact ⟨sbC_bd (by omega) (by omega) (by omega), sbC_bd (by omega) (by omega) (by omega), sbC_bd (by omega) (by omega) (by omega)⟩
/-- The closure of withoutAlpha. -/
theorem iwa1 (w : World) (x : Int) (g : Nat) (t : Edg) (hx : 0 ≤ x) (hxa : x ≤ t.cy) (ha : 1 ≤ t.cy ∧ t.cy ≤ 255) (hq : QB w g t) :
    Calls Try.prog 116 (#[.int .i64 x] ++ #[.pointer (some ⟨g, 0, none⟩)]) w fun e w' => e = .returned (.int .i64 (sbC x t.cy)) ∧ Kp w w' := by
  show Calls Try.prog 116 #[.int .i64 x, .pointer (some ⟨g, 0, none⟩)] w _
  have q3 := hq.c3
  generalize t.cy = A at *
  have e1 := sbC_t hx ha.1
  have e2 := sbC_bd hx hxa ha.1
  obtain ⟨h1, h2⟩ := ha
  have hnz : (A == 0) = false := by simp; omega
  generalize sbC x A = y at *
  clear hq
  go_enter Try.func116, Try.ntmps116
  go_wp2
  go_ret
  exact ⟨rfl, Kp.refl _⟩
set_option maxRecDepth 100000 in
set_option maxHeartbeats 4000000 in
theorem iwa (w : World) (t : Edg) (ht : tnB t = true) :
    Calls Try.prog 105 #[edV t] w fun e w' => e = .returned (.agg #[.int .i64 (wa t.ax t.cy), .int .i64 (wa t.ay t.cy), .int .i64 (wa t.bx t.cy)]) ∧ Kp w w' := by
  have hb := tn_le ht
  obtain ⟨W, hW⟩ : ∃ W, (w.alloc (.cells #[.int .i64 t.ax, .int .i64 t.ay, .int .i64 t.bx, .int .i64 t.cy] 24)).alloc (.cells #[.int .i64 0, .int .i64 0, .int .i64 0] 41) = W := ⟨_, rfl⟩
  have KW : Hid (Kp w W) := by show Kp w W; rw [← hW]; exact ((Kp.refl w).alloc _ _).alloc _ _
  have HQ : Hid (QB W w.heap.size t) := by show QB _ _ _; rw [← hW]; exact (QB.new w t _).nw (QBnw _ _)
  have HZ : Hid ((W.cell? ⟨w.heap.size + 1, 0, none⟩ = some (.int .i64 0) ∧ W.cell? ⟨w.heap.size + 1, 1, none⟩ = some (.int .i64 0) ∧ W.cell? ⟨w.heap.size + 1, 2, none⟩ = some (.int .i64 0)) ∧ ∀ o, W.frozen? ⟨w.heap.size + 1, o, none⟩ = false) := by
    have h1 : ∀ w : World, ((w.alloc (.cells #[.int .i64 0, .int .i64 0, .int .i64 0] 41)).cell? ⟨w.heap.size, 0, none⟩ = some (.int .i64 0) ∧ (w.alloc (.cells #[.int .i64 0, .int .i64 0, .int .i64 0] 41)).cell? ⟨w.heap.size, 1, none⟩ = some (.int .i64 0) ∧ (w.alloc (.cells #[.int .i64 0, .int .i64 0, .int .i64 0] 41)).cell? ⟨w.heap.size, 2, none⟩ = some (.int .i64 0)) ∧ ∀ o, (w.alloc (.cells #[.int .i64 0, .int .i64 0, .int .i64 0] 41)).frozen? ⟨w.heap.size, o, none⟩ = false := fun w => ⟨⟨by simp, by simp, by simp⟩, fun o => World.frozen?_alloc_at _ _ _ _ rfl⟩
    have h := h1 (w.alloc (.cells #[.int .i64 t.ax, .int .i64 t.ay, .int .i64 t.bx, .int .i64 t.cy] 24))
    simp only [World.size_alloc] at h
    show (_ ∧ _) ∧ _
    rw [← hW]
    exact h
  have HW : Hid (_ = W) := hW
  clear hW
  unfold wa
  by_cases h0 : t.cy = 0
  · simp only [h0, if_true]
    obtain ⟨r, g, b, a⟩ := t
    simp only at h0
    subst h0
    unfold edV
    simp only
    go_enter Try.func105, Try.ntmps105
    go_wp2
    exact bodyPost_ret (v := .agg #[.int .i64 0, .int .i64 0, .int .i64 0]) (by simp [results, Try.results105, go_sem]) rfl ⟨rfl, ((Kp.refl w).alloc _ _).alloc _ _⟩
  · simp only [h0, if_false]
    have hmf : ∀ (fn : Fn) (first cap : Array Value) (w : World), (Instr.makeFunc fn first cap).run Try.prog w = .ok (.func fn first cap) w := fun _ _ _ _ => rfl
    have HC : Hid (Calls Try.prog 76 #[edV t, .func (.func 116) #[] #[.pointer (some ⟨w.heap.size, 0, none⟩)]] W fun e w' => e = .returned (edV ⟨sbC t.ax t.cy, sbC t.ay t.cy, sbC t.bx t.cy, sbC t.cy t.cy⟩) ∧ Kp W w') :=
      ieach W t ⟨sbC t.ax t.cy, sbC t.ay t.cy, sbC t.bx t.cy, sbC t.cy t.cy⟩ 116 _ (fun _ _ => by simp [go_sem]) (fun w1 k => iwa1 w1 _ _ t (by omega) (by omega) (by omega) (QB.nw HQ.out k.nw)) (fun w1 k => iwa1 w1 _ _ t (by omega) (by omega) (by omega) (QB.nw HQ.out k.nw)) (fun w1 k => iwa1 w1 _ _ t (by omega) (by omega) (by omega) (QB.nw HQ.out k.nw)) (fun w1 k => iwa1 w1 _ _ t (by omega) (by omega) (by omega) (QB.nw HQ.out k.nw))
    have hd : (t.cy == 0) = false := by simp [h0]
    generalize sbC t.ax t.cy = y0 at *
    generalize sbC t.ay t.cy = y1 at *
    generalize sbC t.bx t.cy = y2 at *
    generalize sbC t.cy t.cy = y3 at *
    obtain ⟨r, g, b, a⟩ := t
    unfold edV at HC ⊢
    simp only at HC HW hd ⊢
    clear hb ht h0
    go_enter Try.func105, Try.ntmps105
    go_wp2_with fail
    rw [HW.out]
    refine Calls.mono HC.out ?_
    rintro e w1 ⟨rfl, k1⟩
    have K1 : Hid (Kp W w1) := k1
    clear k1
    obtain ⟨⟨z0, z1, z2⟩, zf⟩ := HZ.out
    replace z0 := rq_at (K1.out.alloc #[.int .i64 y0, .int .i64 y1, .int .i64 y2, .int .i64 y3] 24) z0
    replace z1 := rq_at (K1.out.alloc #[.int .i64 y0, .int .i64 y1, .int .i64 y2, .int .i64 y3] 24) z1
    replace z2 := rq_at (K1.out.alloc #[.int .i64 y0, .int .i64 y1, .int .i64 y2, .int .i64 y3] 24) z2
    have zf2 : ∀ o, (w1.alloc (.cells #[.int .i64 y0, .int .i64 y1, .int .i64 y2, .int .i64 y3] 24)).frozen? ⟨w.heap.size + 1, o, none⟩ = false := fun o => ((K1.out.alloc _ _).cells.2 _ _).trans (zf o)
    clear zf
    obtain ⟨v0, v1, v2⟩ := set3 _ (w.heap.size + 1) (.int .i64 y0) (.int .i64 y1) (.int .i64 y2) z0 z1 z2
    go_wp2
    refine bodyPost_ret (v := .agg #[.int .i64 y0, .int .i64 y1, .int .i64 y2]) (by simp [results, Try.results105, go_sem, v0, v1, v2]) rfl ⟨rfl, ?_⟩
    exact (((Kp.trans KW.out (K1.out.alloc _ _)).setCell (by first | (simp; done) | (simp; omega)) _).setCell (by first | (simp; done) | (simp; omega)) _).setCell (by first | (simp; done) | (simp; omega)) _
end Go.Proofs.Ythlohbiocfeapaa
