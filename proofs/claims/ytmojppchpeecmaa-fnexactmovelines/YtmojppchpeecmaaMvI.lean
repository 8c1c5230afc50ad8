/-
  A point moved by the program; each theorem names its conditions.
-/
import Derived.Test.YtmojppchpeecmaaMvR
import Derived.Test.YtmojppchpeecmaaAf
namespace Go.Proofs.Ytmojppchpeecmaa
open Go.ChangeShapes Go.WideShapes Go.ChangeAt Go.RowKit
set_option linter.unusedVariables false

structure Aff where
  a : Int
  b : Int
  c : Int
  d : Int
  e : Int
  f : Int
def Aff.v (A : Aff) : Value := .agg #[.int .i64 A.a, .int .i64 A.b, .int .i64 A.c, .int .i64 A.d, .int .i64 A.e, .int .i64 A.f]
def Aff.ok (A : Aff) : Bool := gA A.a A.b A.c A.d A.e A.f
def mvP (A : Aff) (p : Pnt) : Pnt := (fmV A.a p.1 + fmV A.c p.2 + A.e, fmV A.b p.1 + fmV A.d p.2 + A.f)
theorem Aff.ok_bd {A : Aff} (h : A.ok = true) : (-4294967296 ≤ A.e ∧ A.e ≤ 4294967296) ∧ (-4294967296 ≤ A.f ∧ A.f ≤ 4294967296) := by
  unfold Aff.ok gA at h
  rw [List.all_eq_true] at h
  have h4 := h 4 (by simp)
  have h5 := h 5 (by simp)
  simp only [el, inR, Bool.and_eq_true, decide_eq_true_eq] at h4 h5
  exact ⟨h4, h5⟩
abbrev SM (g bp : Nat) (mx my x y : Int) (w : World) : Prop := w.cell? ⟨g, 0, none⟩ = some (.int .i64 mx) ∧ w.cell? ⟨g, 1, none⟩ = some (.int .i64 my) ∧ w.cell? ⟨bp, 0, none⟩ = some (.int .i64 x) ∧ w.cell? ⟨bp, 1, none⟩ = some (.int .i64 y)
theorem SM.kp {g bp : Nat} {mx my x y : Int} {w w' : World} (h : SM g bp mx my x y w) (k : Kp w w') : SM g bp mx my x y w' := ⟨kp_at k h.1, kp_at k h.2.1, kp_at k h.2.2.1, kp_at k h.2.2.2⟩
theorem SM.set {g bp b : Nat} {mx my x y : Int} {w : World} (h : SM g bp mx my x y w) (h1 : g ≠ b) (h2 : bp ≠ b) (u v : Value) : SM g bp mx my x y ((w.setCell ⟨b, 0, none⟩ u).setCell ⟨b, 1, none⟩ v) := by
  have e : ∀ k o, k ≠ b → ((w.setCell ⟨b, 0, none⟩ u).setCell ⟨b, 1, none⟩ v).cell? ⟨k, o, none⟩ = w.cell? ⟨k, o, none⟩ := fun k o hk => by
    rw [World.cell?_setCell_other _ _ _ _ (fun e => by injection e; omega), World.cell?_setCell_other _ _ _ _ (fun e => by injection e; omega)]
  exact ⟨(e _ _ h1).trans h.1, (e _ _ h1).trans h.2.1, (e _ _ h2).trans h.2.2.1, (e _ _ h2).trans h.2.2.2⟩
def ZB (b : Nat) (w : World) : Prop := w.cell? ⟨b, 0, none⟩ = some (.int .i64 0) ∧ w.cell? ⟨b, 1, none⟩ = some (.int .i64 0) ∧ ∀ o, w.frozen? ⟨b, o, none⟩ = false
theorem ZB.kp {b : Nat} {w w' : World} (h : ZB b w) (k : Kp w w') : ZB b w' := ⟨kp_at k h.1, kp_at k h.2.1, fun o => (k.cells.2 _ _).trans (h.2.2 o)⟩
theorem box3 {w W : World} {a b c d e f x y : Value} {t1 t2 t3 : TypeId} (h : ((w.alloc (.cells #[a, b, c, d, e, f] t1)).alloc (.cells #[x, y] t2)).alloc (.cells #[.int .i64 0, .int .i64 0] t3) = W) :
    (W.cell? ⟨w.heap.size, 0, none⟩ = some a ∧ W.cell? ⟨w.heap.size, 1, none⟩ = some b ∧ W.cell? ⟨w.heap.size, 2, none⟩ = some c ∧ W.cell? ⟨w.heap.size, 3, none⟩ = some d ∧ W.cell? ⟨w.heap.size, 4, none⟩ = some e ∧ W.cell? ⟨w.heap.size, 5, none⟩ = some f) ∧
    (W.cell? ⟨w.heap.size + 1, 0, none⟩ = some x ∧ W.cell? ⟨w.heap.size + 1, 1, none⟩ = some y) ∧ ZB (w.heap.size + 1 + 1) W ∧ Kp w W ∧ W.heap.size = w.heap.size + 1 + 1 + 1 := by
  subst h
  have e1 := World.size_alloc w (.cells #[a, b, c, d, e, f] t1)
  have e2 := World.size_alloc (w.alloc (.cells #[a, b, c, d, e, f] t1)) (.cells #[x, y] t2)
  refine ⟨?_, ?_, ⟨?_, ?_, ?_⟩, (((Kp.refl w).alloc _ _).alloc _ _).alloc _ _, by simp⟩
  · have m : ∀ o, (((w.alloc (.cells #[a, b, c, d, e, f] t1)).alloc (.cells #[x, y] t2)).alloc (.cells #[.int .i64 0, .int .i64 0] t3)).cell? ⟨w.heap.size, o, none⟩ = (#[a, b, c, d, e, f] : Array Value)[o]? := fun o => by
      rw [World.cell?_alloc_past _ _ _ (by simp; omega), World.cell?_alloc_past _ _ _ (by simp), World.cell?_alloc_at _ _ _ _ rfl]
    exact ⟨m 0, m 1, m 2, m 3, m 4, m 5⟩
  · have m : ∀ o, (((w.alloc (.cells #[a, b, c, d, e, f] t1)).alloc (.cells #[x, y] t2)).alloc (.cells #[.int .i64 0, .int .i64 0] t3)).cell? ⟨w.heap.size + 1, o, none⟩ = (#[x, y] : Array Value)[o]? := fun o => by
      rw [World.cell?_alloc_past _ _ _ (by simp), World.cell?_alloc_at _ _ _ _ (by simp)]
    exact ⟨m 0, m 1⟩
  · rw [World.cell?_alloc_at _ _ _ _ (by simp)]; rfl
  · rw [World.cell?_alloc_at _ _ _ _ (by simp)]; rfl
  · intro o
    exact World.frozen?_alloc_at _ _ _ _ (by simp)
set_option maxRecDepth 100000 in
set_option maxHeartbeats 4000000 in
theorem imovedP (w : World) (A : Aff) (x y : Int) (hg : A.ok = true) :
    Calls Try.prog 88 #[A.v, .agg #[.int .i64 x, .int .i64 y]] w fun e w' => e = .returned (.tuple #[.agg #[.int .i64 (mvP A (x, y)).1, .int .i64 (mvP A (x, y)).2], .bool (ptB (x, y) && ptB (mvP A (x, y)))]) ∧ Kp w w' := by
  have hb := Aff.ok_bd hg
  clear hg
  obtain ⟨a, b, c, d, e, f⟩ := A
  unfold Aff.v
  simp only at hb ⊢
  have b1 := fmV_bd a x
  have b2 := fmV_bd c y
  have b3 := fmV_bd b x
  have b4 := fmV_bd d y
  have x1 : IntKind.i64.wrap (fmV a x + fmV c y) = fmV a x + fmV c y := IntWalk.i64_in _ ⟨by omega, by omega⟩
  have x2 : IntKind.i64.wrap (fmV a x + fmV c y + e) = fmV a x + fmV c y + e := IntWalk.i64_in _ ⟨by omega, by omega⟩
  have x3 : IntKind.i64.wrap (fmV b x + fmV d y) = fmV b x + fmV d y := IntWalk.i64_in _ ⟨by omega, by omega⟩
  have x4 : IntKind.i64.wrap (fmV b x + fmV d y + f) = fmV b x + fmV d y + f := IntWalk.i64_in _ ⟨by omega, by omega⟩
  have HP : Hid _ := fun w => igoodP w x y
  have HM : Hid _ := fun w => igoodP w (fmV a x + fmV c y + e) (fmV b x + fmV d y + f)
  unfold mvP
  simp only
  generalize ptB (x, y) = V1 at *
  generalize ptB (fmV a x + fmV c y + e, fmV b x + fmV d y + f) = V2 at *
  obtain ⟨mx, hmx⟩ : ∃ mx, fmV a x + fmV c y + e = mx := ⟨_, rfl⟩
  obtain ⟨my, hmy⟩ : ∃ my, fmV b x + fmV d y + f = my := ⟨_, rfl⟩
  rw [hmx, hmy] at HM ⊢
  clear b1 b2 b3 b4 hb
  go_enter Try.func88, Try.ntmps88
  go_wp2
  obtain ⟨W, hW⟩ : ∃ W, ((w.alloc (.cells #[.int .i64 a, .int .i64 b, .int .i64 c, .int .i64 d, .int .i64 e, .int .i64 f] 31)).alloc (.cells #[.int .i64 x, .int .i64 y] 27)).alloc (.cells #[.int .i64 0, .int .i64 0] 27) = W := ⟨_, rfl⟩
  rw [hW]
  obtain ⟨hcs, hps, hzs, hkw, hsz⟩ := box3 hW
  clear hW
  refine reg_change (ops' := opsOf 1 Try.f88) (by kernel_rfl) ?_
  refine MX.run ⟨w.heap.size, w.heap.size + 1, a, b, c, d, e, f, x, y, W.drew, _⟩ ⟨hcs.1, hcs.2.1, hcs.2.2.1, hcs.2.2.2.1, hcs.2.2.2.2.1, hcs.2.2.2.2.2, hps.1, hps.2, x1, x2, x3, x4, rfl, rfl, rfl⟩ W (Kp.refl _) ?_
  rintro γ w9 ⟨g, g0, hg0, y0, y1, yf, k1⟩
  simp only at g0 hg0 y0 y1 yf k1 ⊢
  rw [g0]
  clear g0
  rw [hmx] at y0 ⊢
  rw [hmy] at y1 ⊢
  have k2 : Kp W w9 := Kp.trans ((Kp.refl W).drew) k1
  have HK : Hid (Kp w w9.drew) := (Kp.trans hkw k2).drew
  have HSM : Hid (SM g (w.heap.size + 1) mx my x y w9.drew) := ⟨y0, y1, kp_at k2.drew hps.1, kp_at k2.drew hps.2⟩
  have HZ : Hid (ZB (w.heap.size + 1 + 1) w9.drew) := ZB.kp hzs k2.drew
  have hgn : g ≠ w.heap.size + 1 + 1 := by
    have : W.heap.size ≤ g := hg0
    omega
  obtain ⟨z0, z1, zf⟩ := HZ.out
  clear hcs hps hzs hkw hsz k1 k2 hg0 y0 y1 yf x1 x2 x3 x4 hmx hmy
  obtain ⟨s0, s1, s2, s3⟩ := HSM.out
  cases V1 with
  | false =>
    go_wp2
    go_region_with ((go_at_call_of 79 (Value.int .i64 x); refine Calls.mono (HP.out _) ?_; rintro e w' ⟨rfl, hk⟩; replace HK := (show Hid (Kp w w') from Kp.trans HK.out hk); replace HSM := (show Hid (SM g (w.heap.size + 1) mx my x y w') from SM.kp HSM.out hk); replace HZ := (show Hid (ZB (w.heap.size + 1 + 1) w') from ZB.kp HZ.out hk); obtain ⟨z0, z1, zf⟩ := HZ.out; obtain ⟨s0, s1, s2, s3⟩ := HSM.out; clear hk))
    all_goals
      go_wp2
      obtain ⟨y0, y1⟩ := set2 _ (w.heap.size + 1 + 1) (.int .i64 mx) (.int .i64 my) z0 z1
      exact bodyPost_ret (v := .tuple #[.agg #[.int .i64 mx, .int .i64 my], .bool false]) (by simp [results, Try.results88, go_sem, y0, y1]) rfl ⟨rfl, Kp.setCell (Kp.setCell HK.out (by simp; omega) _) (by simp; omega) _⟩
  | true =>
    go_wp2
    go_region_held3 (SM g (w.heap.size + 1) mx my x y)
      (first | with_reducible exact HSM.out | with_reducible exact SM.set HSM.out hgn (by omega) _ _)
      (first
        | (go_at_call_of 79 (Value.int .i64 x); refine Calls.mono (HP.out _) ?_; rintro e w' ⟨rfl, hk⟩; replace HK := (show Hid (Kp w w') from Kp.trans HK.out hk); replace HSM := (show Hid (SM g (w.heap.size + 1) mx my x y w') from SM.kp HSM.out hk); replace HZ := (show Hid (ZB (w.heap.size + 1 + 1) w') from ZB.kp HZ.out hk); obtain ⟨z0, z1, zf⟩ := HZ.out; obtain ⟨s0, s1, s2, s3⟩ := HSM.out; clear hk)
        | (go_at_call_of 79 (Value.int .i64 mx); refine Calls.mono (HM.out _) ?_; rintro e w' ⟨rfl, hk⟩; replace HK := (show Hid (Kp w w') from Kp.trans HK.out hk); replace HSM := (show Hid (SM g (w.heap.size + 1) mx my x y w') from SM.kp HSM.out hk); replace HZ := (show Hid (ZB (w.heap.size + 1 + 1) w') from ZB.kp HZ.out hk); obtain ⟨z0, z1, zf⟩ := HZ.out; obtain ⟨s0, s1, s2, s3⟩ := HSM.out; clear hk))
    all_goals
      go_wp2
      obtain ⟨y0, y1⟩ := set2 _ (w.heap.size + 1 + 1) (.int .i64 mx) (.int .i64 my) z0 z1
      exact bodyPost_ret (v := .tuple #[.agg #[.int .i64 mx, .int .i64 my], .bool V2]) (by simp [results, Try.results88, go_sem, y0, y1]) rfl ⟨rfl, Kp.setCell (Kp.setCell HK.out (by simp; omega) _) (by simp; omega) _⟩
end Go.Proofs.Ytmojppchpeecmaa
