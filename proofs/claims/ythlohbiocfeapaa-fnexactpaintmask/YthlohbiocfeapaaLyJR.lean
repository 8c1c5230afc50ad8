/-
  The statement of LaySheet that makes two layers, whatever order its operations come up in; each theorem names its conditions.
-/
import Derived.Test.YthlohbiocfeapaaShI
import Derived.Test.YthlohbiocfeapaaRc
namespace Go.Proofs.Ythlohbiocfeapaa
open Go.ChangeShapes Go.WideShapes Go.ChangeAt Go.RowKit
set_option linter.unusedVariables false

/-- A call that makes memory at most. -/
theorem st_callH {ops : Array Oper} {acts : List Nat} {av : Nat → Option Nat} {ext : Nat → Value → Value} {val0 : Nat → Value} {Wd : (Nat → Bool) → (Nat → Value) → World → Prop} {a0 : Act} {Q : Exit → Act → World → Prop} {γ : Nat → Value} {listed : Array Bool} {a : Act} {w : World} {i d : Nat} {o : Oper} {f : FuncId} {args : Array Value} (hF : FrI ops (valH av ext val0 γ) a0 listed a) (hC : Clo ops listed) (ho : ops[i]? = some o) (h2 : ∀ e ∈ o.after, Region.binds .any e = true → listed.getD e.on false = true)
    (hna : i ∉ acts) (hd : o.dst = some d) (hg : o.guard = none) (hav : av d = none) (hrun : (execOp a.eval o).run Try.prog w = .ok (.enter f args) w) (hc : Calls Try.prog f args w fun e w' => e = .returned (val0 d) ∧ Kp w w') (hk : ∀ w', Kp w w' → Wd (upOf listed acts) γ w') :
    wpOp Try.prog ops Q i (fun a' w' => InvH ops acts av ext val0 Wd a0 (listed.setIfInBounds i true) a' w') a w := by
  have hi := hF.lt ho
  unfold wpOp
  rw [ho]
  have hw : Region.wanted o (yielded ops a.tmps) = true := by unfold Region.wanted; rw [hg]
  simp only [hw, if_true]
  refine Or.inl ?_
  unfold Oper.wp
  rw [hrun]
  have e : valH av ext val0 γ d = val0 d := by unfold valH; rw [hav]
  refine Calls.mono hc ?_
  rintro e' w' ⟨rfl, hkk⟩
  refine ⟨γ, ?_, hC.set hi ho h2, by rw [upOf_ne hi hna]; exact hk w' hkk⟩
  have := hF.put ho hd
  rw [e] at this
  exact this
/-- A variable for a layer, made from B on; laid into where done is true. -/
def LvB (w : World) (B : Nat) (u : Value) (done : Bool) (p : MD) (v : Value) : Prop :=
  ∃ g, u = .pointer (some ⟨g, 0, none⟩) ∧ B ≤ g ∧ g < w.heap.size ∧ (∃ p0 v0, MB w g p0 v0) ∧ (∀ o, w.frozen? ⟨g, o, none⟩ = false) ∧ (done = true → MB w g p v)
theorem LvB.kp {w w' : World} {B : Nat} {u : Value} {done : Bool} {p : MD} {v : Value} (h : LvB w B u done p v) (k : Nw w w') : LvB w' B u done p v := by
  obtain ⟨g, h1, h2, h3, ⟨p0, v0, h4⟩, h5, h6⟩ := h
  exact ⟨g, h1, h2, Nat.lt_of_lt_of_le h3 (Below.size k), ⟨p0, v0, h4.nw k⟩, fun o => ((bcell k).2 _ _ h3).trans (h5 o), fun hd => (h6 hd).nw k⟩
theorem MB.off {w : World} {b : Nat} {p : MD} {v : Value} (h : MB w b p v) (g o : Nat) (u : Value) (hne : b ≠ g) : MB (w.setCell ⟨g, o, none⟩ u) b p v := by
  have e : ∀ o', (w.setCell ⟨g, o, none⟩ u).cell? ⟨b, o', none⟩ = w.cell? ⟨b, o', none⟩ := fun o' => World.cell?_setCell_other _ _ _ _ (fun e => by injection e; omega)
  exact ⟨(e _).trans h.c0, (e _).trans h.c1, (e _).trans h.c2⟩
theorem LvB.off {w : World} {B : Nat} {u : Value} {done : Bool} {p : MD} {v : Value} (h : LvB w B u done p v) (g o : Nat) (x : Value) (hne : u ≠ .pointer (some ⟨g, 0, none⟩)) : LvB (w.setCell ⟨g, o, none⟩ x) B u done p v := by
  obtain ⟨b, rfl, h2, h3, ⟨p0, v0, h4⟩, h5, h6⟩ := h
  have hb : b ≠ g := fun e => hne (by rw [e])
  exact ⟨b, rfl, h2, by simpa [World.setCell] using h3, ⟨p0, v0, h4.off g o x hb⟩, fun o' => by rw [World.frozen?_setCell]; exact h5 o', fun hd => (h6 hd).off g o x hb⟩
theorem MB.put {w : World} {b : Nat} {p0 : MD} {v0 : Value} (h : MB w b p0 v0) (p : MD) (v : Value) : MB (((w.setCell ⟨b, 0, none⟩ (.int .i64 p.w)).setCell ⟨b, 1, none⟩ (.int .i64 p.h)).setCell ⟨b, 2, none⟩ v) b p v := by
  obtain ⟨y0, y1, y2⟩ := set3 w b (.int .i64 p.w) (.int .i64 p.h) v h.c0 h.c1 h.c2
  exact ⟨y0, y1, y2⟩
structure LSR where
  b1 : Nat
  b2 : Nat
  d : MD
  e : MD
  a1 : Option Addr
  n1 : Nat
  c1 : Nat
  a2 : Option Addr
  n2 : Nat
  c2 : Nat
  W : World
  a0 : Act
structure LSROk (X : LSR) : Prop where
  m1 : MB X.W X.b1 X.d (.slice X.a1 X.n1 X.c1)
  m2 : MB X.W X.b2 X.e (.slice X.a2 X.n2 X.c2)
  e3 : X.a0.eval (.tmp 3) = .pointer (some ⟨X.b1, 0, none⟩)
  e4 : X.a0.eval (.tmp 4) = .pointer (some ⟨X.b2, 0, none⟩)
  sz : X.a0.tmps.size = 46
def LSR.val0 (X : LSR) : Nat → Value
  | 11 => .agg #[.int .i64 X.d.w, .int .i64 X.d.h, .slice X.a1 X.n1 X.c1]
  | 12 => .agg #[.int .i64 X.d.w, .int .i64 X.d.h, .slice X.a1 X.n1 X.c1]
  | 13 => .agg #[.int .i64 X.e.w, .int .i64 X.e.h, .slice X.a2 X.n2 X.c2]
  | 14 => .agg #[.int .i64 X.e.w, .int .i64 X.e.h, .slice X.a2 X.n2 X.c2]
  | _ => undef
def LSR.av : Nat → Option Nat
  | 8 => some 0
  | 9 => some 1
  | _ => none
def LSR.ext : Nat → Value → Value
  | _ => fun u => u
def LSR.acts : List Nat := [4, 5, 6, 7]
theorem LSR.nodup : LSR.acts.Nodup := by decide
structure LSR.Wd (X : LSR) (S : Nat → Bool) (γ : Nat → Value) (w : World) : Prop where
  kp : Kp X.W w
  l0 : S 0 = true → LvB w X.W.heap.size (γ 0) (S 2) X.d (.slice X.a1 X.n1 X.c1)
  l1 : S 1 = true → LvB w X.W.heap.size (γ 1) (S 3) X.e (.slice X.a2 X.n2 X.c2)
  ne : S 0 = true → S 1 = true → γ 0 ≠ γ 1
theorem LSR.Wd.keep {X : LSR} {S : Nat → Bool} {γ : Nat → Value} {w w' : World} (h : X.Wd S γ w) (k : Kp w w') : X.Wd S γ w' :=
  ⟨Kp.trans h.kp k, fun hs => (h.l0 hs).kp k.nw, fun hs => (h.l1 hs).kp k.nw, h.ne⟩
theorem LvB.new {w : World} {B : Nat} (hB : B ≤ w.heap.size) (p : MD) (v : Value) (t : TypeId) : LvB (w.alloc (.cells #[.int .i64 0, .int .i64 0, .slice none 0 0] t)) B (.pointer (some ⟨w.heap.size, 0, none⟩)) false p v :=
  ⟨_, rfl, hB, by simp, ⟨⟨0, 0⟩, .slice none 0 0, MB.new w ⟨0, 0⟩ _ t⟩, fun o => World.frozen?_alloc_at _ _ _ _ rfl, fun h => by cases h⟩
theorem LvB.fresh {w : World} {B : Nat} {u : Value} {done : Bool} {p : MD} {v : Value} (h : LvB w B u done p v) : u ≠ .pointer (some ⟨w.heap.size, 0, none⟩) := by
  obtain ⟨g, rfl, _, h3, _⟩ := h
  intro e
  injection e with e; injection e with e; injection e with e
  omega
theorem LvB.store {w : World} {B : Nat} {u : Value} {done : Bool} {p p1 : MD} {v v1 : Value} {g : Nat} (h : LvB w B u done p1 v1) (hu : u = .pointer (some ⟨g, 0, none⟩)) (d2 : Bool) : LvB (((w.setCell ⟨g, 0, none⟩ (.int .i64 p.w)).setCell ⟨g, 1, none⟩ (.int .i64 p.h)).setCell ⟨g, 2, none⟩ v) B u d2 p v := by
  obtain ⟨b, h1, h2, h3, ⟨p0, v0, h4⟩, h5, h6⟩ := h
  rw [hu] at h1
  injection h1 with h1; injection h1 with h1; injection h1 with h1
  subst h1
  exact ⟨g, hu, h2, by simpa [World.setCell] using h3, ⟨p, v, h4.put p v⟩, fun o => by rw [World.frozen?_setCell, World.frozen?_setCell, World.frozen?_setCell]; exact h5 o, fun _ => h4.put p v⟩
theorem LSR.s0 (X : LSR) (ok : LSROk X) {Q : Exit → Act → World → Prop} : StepH (opsOf 1 Try.f51) LSR.acts LSR.av LSR.ext X.val0 X.Wd X.a0 Q 0 := by
  intro γ listed a w o hF hC hW h1 ho h2
  obtain ⟨hd, hop, hg⟩ := fields2 (x := some 11) (y := Op.load 57 (.tmp 3)) (z := none) (by kernel_rfl) ho
  have e3 : a.eval (.tmp 3) = .pointer (some ⟨X.b1, 0, none⟩) := (hF.eval0 (by kernel_rfl)).trans ok.e3
  obtain ⟨c0, c1, c2⟩ := MB.nw ok.m1 hW.kp.nw
  refine st_pureH hF hC hW ho h2 (by decide) hd hg ?_
  show _ = Result.ok (Next.value (.agg #[.int .i64 X.d.w, .int .i64 X.d.h, .slice X.a1 X.n1 X.c1])) w
  generalize a.eval = ρ at e3 ⊢
  unfold execOp
  rw [hop]
  simp [e3, c0, c1, c2, go_sem]
theorem LSR.s1 (X : LSR) (ok : LSROk X) {Q : Exit → Act → World → Prop} : StepH (opsOf 1 Try.f51) LSR.acts LSR.av LSR.ext X.val0 X.Wd X.a0 Q 1 := by
  intro γ listed a w o hF hC hW h1 ho h2
  obtain ⟨hd, hop, hg⟩ := fields2 (x := some 12) (y := Op.call { callee := .value (.func 92), args := #[(.tmp 11)], argTypes := #[57] }) (z := none) (by kernel_rfl) ho
  have e11 : a.eval (.tmp 11) = .agg #[.int .i64 X.d.w, .int .i64 X.d.h, .slice X.a1 X.n1 X.c1] := slotH hF ho h2 (j := 0) (d := 11) (by kernel_rfl) (by kernel_rfl) (by rw [ok.sz]; decide)
  have ef : a.eval (.func 92) = .func (.func 92) #[] #[] := rfl
  refine st_callH hF hC ho h2 (by decide) hd hg rfl (f := 92) (args := #[.agg #[.int .i64 X.d.w, .int .i64 X.d.h, .slice X.a1 X.n1 X.c1]]) ?_ ?_ ?_
  · generalize a.eval = ρ at e11 ef ⊢
    unfold execOp
    rw [hop]
    simp [e11, ef, go_sem]
  · exact ilayerOf w X.d X.a1 X.n1 X.c1
  · intro w' hk; exact hW.keep hk
theorem LSR.s2 (X : LSR) (ok : LSROk X) {Q : Exit → Act → World → Prop} : StepH (opsOf 1 Try.f51) LSR.acts LSR.av LSR.ext X.val0 X.Wd X.a0 Q 2 := by
  intro γ listed a w o hF hC hW h1 ho h2
  obtain ⟨hd, hop, hg⟩ := fields2 (x := some 13) (y := Op.load 57 (.tmp 4)) (z := none) (by kernel_rfl) ho
  have e4 : a.eval (.tmp 4) = .pointer (some ⟨X.b2, 0, none⟩) := (hF.eval0 (by kernel_rfl)).trans ok.e4
  obtain ⟨c0, c1, c2⟩ := MB.nw ok.m2 hW.kp.nw
  refine st_pureH hF hC hW ho h2 (by decide) hd hg ?_
  show _ = Result.ok (Next.value (.agg #[.int .i64 X.e.w, .int .i64 X.e.h, .slice X.a2 X.n2 X.c2])) w
  generalize a.eval = ρ at e4 ⊢
  unfold execOp
  rw [hop]
  simp [e4, c0, c1, c2, go_sem]
theorem LSR.s3 (X : LSR) (ok : LSROk X) {Q : Exit → Act → World → Prop} : StepH (opsOf 1 Try.f51) LSR.acts LSR.av LSR.ext X.val0 X.Wd X.a0 Q 3 := by
  intro γ listed a w o hF hC hW h1 ho h2
  obtain ⟨hd, hop, hg⟩ := fields2 (x := some 14) (y := Op.call { callee := .value (.func 92), args := #[(.tmp 13)], argTypes := #[57] }) (z := none) (by kernel_rfl) ho
  have e13 : a.eval (.tmp 13) = .agg #[.int .i64 X.e.w, .int .i64 X.e.h, .slice X.a2 X.n2 X.c2] := slotH hF ho h2 (j := 2) (d := 13) (by kernel_rfl) (by kernel_rfl) (by rw [ok.sz]; decide)
  have ef : a.eval (.func 92) = .func (.func 92) #[] #[] := rfl
  refine st_callH hF hC ho h2 (by decide) hd hg rfl (f := 92) (args := #[.agg #[.int .i64 X.e.w, .int .i64 X.e.h, .slice X.a2 X.n2 X.c2]]) ?_ ?_ ?_
  · generalize a.eval = ρ at e13 ef ⊢
    unfold execOp
    rw [hop]
    simp [e13, ef, go_sem]
  · exact ilayerOf w X.e X.a2 X.n2 X.c2
  · intro w' hk; exact hW.keep hk
theorem LSR.s4 (X : LSR) (ok : LSROk X) {Q : Exit → Act → World → Prop} : StepH (opsOf 1 Try.f51) LSR.acts LSR.av LSR.ext X.val0 X.Wd X.a0 Q 4 := by
  intro γ listed a w o hF hC hW h1 ho h2
  obtain ⟨hd, hop, hg⟩ := fields2 (x := some 8) (y := Op.alloc 114) (z := none) (by kernel_rfl) ho
  have hu := unl (hF.lt ho) h1
  have hno : upOf listed LSR.acts 2 = false := up_no hC hu rfl [4] (by kernel_rfl) (by decide)
  refine st_actH (k := 0) (ps := []) LSR.nodup rfl (by kernel_rfl) hF hC h1 ho h2 (Or.inr ⟨8, hd, rfl, fun _ => rfl⟩) hg ?_
  intro K hK
  have hr : (execOp a.eval o).run Try.prog w = .ok (.value (.pointer (some ⟨w.heap.size, 0, none⟩))) (w.alloc (.cells #[.int .i64 0, .int .i64 0, .slice none 0 0] 114)) := by
    unfold execOp
    rw [hop]
    simp [go_sem]
  unfold Oper.wp
  rw [hr]
  have n1 : Nw w (w.alloc (.cells #[.int .i64 0, .int .i64 0, .slice none 0 0] 114)) := (Below.refl _ _).alloc (Nat.le_refl _) _
  refine hK _ _ ⟨hW.kp.alloc _ _, ?_, ?_, ?_⟩
  · intro _
    rw [updG_at, upS_ne (by decide), hno]
    exact LvB.new (Kp.size hW.kp) _ _ _
  · intro hs
    rw [upS_ne (by decide)] at hs
    rw [updG_ne (by decide), upS_ne (by decide)]
    exact (hW.l1 hs).kp n1
  · intro hs0 hs1
    rw [upS_ne (by decide)] at hs1
    rw [updG_at, updG_ne (by decide)]
    exact fun e => LvB.fresh (hW.l1 hs1) e.symm
theorem LSR.s5 (X : LSR) (ok : LSROk X) {Q : Exit → Act → World → Prop} : StepH (opsOf 1 Try.f51) LSR.acts LSR.av LSR.ext X.val0 X.Wd X.a0 Q 5 := by
  intro γ listed a w o hF hC hW h1 ho h2
  obtain ⟨hd, hop, hg⟩ := fields2 (x := some 9) (y := Op.alloc 114) (z := none) (by kernel_rfl) ho
  have hu := unl (hF.lt ho) h1
  have hno : upOf listed LSR.acts 3 = false := up_no hC hu rfl [5] (by kernel_rfl) (by decide)
  refine st_actH (k := 1) (ps := []) LSR.nodup rfl (by kernel_rfl) hF hC h1 ho h2 (Or.inr ⟨9, hd, rfl, fun _ => rfl⟩) hg ?_
  intro K hK
  have hr : (execOp a.eval o).run Try.prog w = .ok (.value (.pointer (some ⟨w.heap.size, 0, none⟩))) (w.alloc (.cells #[.int .i64 0, .int .i64 0, .slice none 0 0] 114)) := by
    unfold execOp
    rw [hop]
    simp [go_sem]
  unfold Oper.wp
  rw [hr]
  have n1 : Nw w (w.alloc (.cells #[.int .i64 0, .int .i64 0, .slice none 0 0] 114)) := (Below.refl _ _).alloc (Nat.le_refl _) _
  refine hK _ _ ⟨hW.kp.alloc _ _, ?_, ?_, ?_⟩
  · intro hs
    rw [upS_ne (by decide)] at hs
    rw [updG_ne (by decide), upS_ne (by decide)]
    exact (hW.l0 hs).kp n1
  · intro _
    rw [updG_at, upS_ne (by decide), hno]
    exact LvB.new (Kp.size hW.kp) _ _ _
  · intro hs0 hs1
    rw [upS_ne (by decide)] at hs0
    rw [updG_at, updG_ne (by decide)]
    exact LvB.fresh (hW.l0 hs0)
theorem LSR.s6 (X : LSR) (ok : LSROk X) {Q : Exit → Act → World → Prop} : StepH (opsOf 1 Try.f51) LSR.acts LSR.av LSR.ext X.val0 X.Wd X.a0 Q 6 := by
  intro γ listed a w o hF hC hW h1 ho h2
  obtain ⟨hd, hop, hg⟩ := fields2 (x := none) (y := Op.store 114 (.tmp 8) (.tmp 12)) (z := none) (by kernel_rfl) ho
  have e8 : a.eval (.tmp 8) = γ 0 := slotH hF ho h2 (j := 4) (d := 8) (by kernel_rfl) (by kernel_rfl) (by rw [ok.sz]; decide)
  have e12 : a.eval (.tmp 12) = .agg #[.int .i64 X.d.w, .int .i64 X.d.h, .slice X.a1 X.n1 X.c1] := slotH hF ho h2 (j := 1) (d := 12) (by kernel_rfl) (by kernel_rfl) (by rw [ok.sz]; decide)
  have hu := unl (hF.lt ho) h1
  have hs0 : upOf listed LSR.acts 0 = true := up_yes hC ho h2 (j := 4) rfl [4] (by kernel_rfl) (by decide)
  refine st_actH (k := 2) (ps := []) LSR.nodup rfl (by kernel_rfl) hF hC h1 ho h2 (Or.inl hd) hg ?_
  intro K hK
  have hl := hW.l0 hs0
  obtain ⟨g, g1, g2, g3, ⟨p0, v0, ⟨z0, z1, z2⟩⟩, zf, _⟩ := hl
  rw [g1] at e8
  have hr : (execOp a.eval o).run Try.prog w = .ok .skip (((w.setCell ⟨g, 0, none⟩ (.int .i64 X.d.w)).setCell ⟨g, 1, none⟩ (.int .i64 X.d.h)).setCell ⟨g, 2, none⟩ (.slice X.a1 X.n1 X.c1)) := by
    generalize a.eval = ρ at e8 e12 ⊢
    unfold execOp
    rw [hop]
    simp [e8, e12, z0, z1, z2, zf, go_sem]
  unfold Oper.wp
  rw [hr]
  refine hK undef _ ⟨((hW.kp.setCell g2 _).setCell g2 _).setCell g2 _, ?_, ?_, ?_⟩
  · intro _
    rw [updG_ne (by decide)]
    exact LvB.store (hW.l0 hs0) g1 _
  · intro hs
    rw [upS_ne (by decide)] at hs
    rw [updG_ne (by decide), upS_ne (by decide)]
    have hne : γ 1 ≠ .pointer (some ⟨g, 0, none⟩) := by rw [← g1]; exact (hW.ne hs0 hs).symm
    exact (((hW.l1 hs).off g 0 _ hne).off g 1 _ hne).off g 2 _ hne
  · intro h0 h1
    rw [upS_ne (by decide)] at h0 h1
    rw [updG_ne (by decide), updG_ne (by decide)]
    exact hW.ne h0 h1
theorem LSR.s7 (X : LSR) (ok : LSROk X) {Q : Exit → Act → World → Prop} : StepH (opsOf 1 Try.f51) LSR.acts LSR.av LSR.ext X.val0 X.Wd X.a0 Q 7 := by
  intro γ listed a w o hF hC hW h1 ho h2
  obtain ⟨hd, hop, hg⟩ := fields2 (x := none) (y := Op.store 114 (.tmp 9) (.tmp 14)) (z := none) (by kernel_rfl) ho
  have e9 : a.eval (.tmp 9) = γ 1 := slotH hF ho h2 (j := 5) (d := 9) (by kernel_rfl) (by kernel_rfl) (by rw [ok.sz]; decide)
  have e14 : a.eval (.tmp 14) = .agg #[.int .i64 X.e.w, .int .i64 X.e.h, .slice X.a2 X.n2 X.c2] := slotH hF ho h2 (j := 3) (d := 14) (by kernel_rfl) (by kernel_rfl) (by rw [ok.sz]; decide)
  have hu := unl (hF.lt ho) h1
  have hs1 : upOf listed LSR.acts 1 = true := up_yes hC ho h2 (j := 5) rfl [5] (by kernel_rfl) (by decide)
  refine st_actH (k := 3) (ps := []) LSR.nodup rfl (by kernel_rfl) hF hC h1 ho h2 (Or.inl hd) hg ?_
  intro K hK
  have hl := hW.l1 hs1
  obtain ⟨g, g1, g2, g3, ⟨p0, v0, ⟨z0, z1, z2⟩⟩, zf, _⟩ := hl
  rw [g1] at e9
  have hr : (execOp a.eval o).run Try.prog w = .ok .skip (((w.setCell ⟨g, 0, none⟩ (.int .i64 X.e.w)).setCell ⟨g, 1, none⟩ (.int .i64 X.e.h)).setCell ⟨g, 2, none⟩ (.slice X.a2 X.n2 X.c2)) := by
    generalize a.eval = ρ at e9 e14 ⊢
    unfold execOp
    rw [hop]
    simp [e9, e14, z0, z1, z2, zf, go_sem]
  unfold Oper.wp
  rw [hr]
  refine hK undef _ ⟨((hW.kp.setCell g2 _).setCell g2 _).setCell g2 _, ?_, ?_, ?_⟩
  · intro hs
    rw [upS_ne (by decide)] at hs
    rw [updG_ne (by decide), upS_ne (by decide)]
    have hne : γ 0 ≠ .pointer (some ⟨g, 0, none⟩) := by rw [← g1]; exact hW.ne hs hs1
    exact (((hW.l0 hs).off g 0 _ hne).off g 1 _ hne).off g 2 _ hne
  · intro _
    rw [updG_ne (by decide)]
    exact LvB.store (hW.l1 hs1) g1 _
  · intro h0 h1
    rw [upS_ne (by decide)] at h0 h1
    rw [updG_ne (by decide), updG_ne (by decide)]
    exact hW.ne h0 h1
theorem LSR.size : (opsOf 1 Try.f51).size = 8 := by kernel_rfl
theorem LSR.steps (X : LSR) (ok : LSROk X) {Q : Exit → Act → World → Prop} (i : Nat) (hi : i < (opsOf 1 Try.f51).size) : StepH (opsOf 1 Try.f51) LSR.acts LSR.av LSR.ext X.val0 X.Wd X.a0 Q i := by
  rw [LSR.size] at hi
  have hc : i = 0 ∨ i = 1 ∨ i = 2 ∨ i = 3 ∨ i = 4 ∨ i = 5 ∨ i = 6 ∨ i = 7 := by omega
  rcases hc with rfl | rfl | rfl | rfl | rfl | rfl | rfl | rfl
  · exact LSR.s0 X ok
  · exact LSR.s1 X ok
  · exact LSR.s2 X ok
  · exact LSR.s3 X ok
  · exact LSR.s4 X ok
  · exact LSR.s5 X ok
  · exact LSR.s6 X ok
  · exact LSR.s7 X ok
theorem LSR.puts (X : LSR) (γ : Nat → Value) (a0 : Act) : putsL (valH LSR.av LSR.ext X.val0 γ) (opsOf 1 Try.f51).toList a0 = ((((((a0.put (some 11) (.agg #[.int .i64 X.d.w, .int .i64 X.d.h, .slice X.a1 X.n1 X.c1])).put (some 12) (.agg #[.int .i64 X.d.w, .int .i64 X.d.h, .slice X.a1 X.n1 X.c1])).put (some 13) (.agg #[.int .i64 X.e.w, .int .i64 X.e.h, .slice X.a2 X.n2 X.c2])).put (some 14) (.agg #[.int .i64 X.e.w, .int .i64 X.e.h, .slice X.a2 X.n2 X.c2])).put (some 8) (γ 0)).put (some 9) (γ 1)) := by kernel_rfl
/-- The region, whatever order comes up. -/
theorem LSR.run (X : LSR) (ok : LSROk X) {Q : Exit → Act → World → Prop} (w : World) (h0 : Kp X.W w.drew)
    (hend : ∀ (γ : Nat → Value) w' g0 g1, γ 0 = .pointer (some ⟨g0, 0, none⟩) → γ 1 = .pointer (some ⟨g1, 0, none⟩) → Kp X.W w' → MB w' g0 X.d (.slice X.a1 X.n1 X.c1) → MB w' g1 X.e (.slice X.a2 X.n2 X.c2) → Q .normal ((((((X.a0.put (some 11) (.agg #[.int .i64 X.d.w, .int .i64 X.d.h, .slice X.a1 X.n1 X.c1])).put (some 12) (.agg #[.int .i64 X.d.w, .int .i64 X.d.h, .slice X.a1 X.n1 X.c1])).put (some 13) (.agg #[.int .i64 X.e.w, .int .i64 X.e.h, .slice X.a2 X.n2 X.c2])).put (some 14) (.agg #[.int .i64 X.e.w, .int .i64 X.e.h, .slice X.a2 X.n2 X.c2])).put (some 8) (γ 0)).put (some 9) (γ 1)) w') : (Code.region 1 (opsOf 1 Try.f51) true).wp Try.prog Q X.a0 w := by
  refine reg_actH (acts := LSR.acts) (av := LSR.av) (ext := LSR.ext) (val0 := X.val0) (Wd := X.Wd) (by kernel_rfl) (by kernel_rfl) (by rw [LSR.size]; decide) (fun i hi => LSR.steps X ok i hi) (fun _ => undef) ⟨h0, fun h => (by cases h), fun h => (by cases h), fun h => (by cases h)⟩ ?_
  intro S γ w' hS h
  rw [LSR.puts]
  have hs := fun k (hk : k < 4) => hS k hk
  obtain ⟨g0, q1, _, _, _, _, q6⟩ := h.l0 (hs 0 (by decide))
  obtain ⟨g1, r1, _, _, _, _, r6⟩ := h.l1 (hs 1 (by decide))
  exact hend γ w' g0 g1 q1 r1 h.kp (q6 (hs 2 (by decide))) (r6 (hs 3 (by decide)))
end Go.Proofs.Ythlohbiocfeapaa
