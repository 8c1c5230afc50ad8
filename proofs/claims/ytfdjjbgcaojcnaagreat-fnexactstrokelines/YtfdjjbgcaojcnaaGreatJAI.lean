/-
  Small facts for regions that draw their order and leave the boxes that they read as they are; each theorem names its conditions.
  Regions that draw their order and make two variables, laid into each: what is known of the memory, by which of the operations have come up; each theorem names its conditions.
  The statements of strokeOf that draw their order, whatever order comes up; each theorem names its conditions.
  Rows of segments, six cells each; each theorem names its conditions.
-/
import Derived.Test.YtfdjjbgcaojcnaaGreatJAC
import Derived.Test.YtfdjjbgcaojcnaaGreatJAH
import Derived.Test.YtfdjjbgcaojcnaaGreatJAG
import Derived.Test.YtfdjjbgcaojcnaaGreatJAD
namespace Go.Proofs.YtfdjjbgcaojcnaaGreat
open Go.ChangeShapes Go.WideShapes Go.ChangeAt Go.RowKit
set_option linter.unusedVariables false

theorem rq_at {W w : World} {b o : Nat} {v : Value} (k : Kp W w) (h : W.cell? ⟨b, o, none⟩ = some v) : w.cell? ⟨b, o, none⟩ = some v := (k.cells.1 _ _ (World.block_lt_of_cell? W ⟨b, o, none⟩ h)).trans h
theorem rq_set2 (w : World) (g : Nat) (x y : Value) {u v : Value} (h0 : w.cell? ⟨g, 0, none⟩ = some u) (h1 : w.cell? ⟨g, 1, none⟩ = some v) :
    ((w.setCell ⟨g, 0, none⟩ x).setCell ⟨g, 1, none⟩ y).cell? ⟨g, 0, none⟩ = some x ∧ ((w.setCell ⟨g, 0, none⟩ x).setCell ⟨g, 1, none⟩ y).cell? ⟨g, 1, none⟩ = some y := set2 w g x y h0 h1
theorem undrew {w w' : World} (h : Kp w.drew w') : Kp w w' := Kp.trans ((Kp.refl w).drew) h
end Go.Proofs.YtfdjjbgcaojcnaaGreat
namespace Go.Proofs.YtfdjjbgcaojcnaaGreat
open Go.ChangeShapes Go.WideShapes Go.ChangeAt Go.RowKit
set_option linter.unusedVariables false

/-- A call that makes memory at most. -/
theorem st_callQ {ops : Array Oper} {acts : List Nat} {av : Nat → Option Nat} {ext : Nat → Value → Value} {val0 : Nat → Value} {Wd : (Nat → Bool) → (Nat → Value) → World → Prop} {a0 : Act} {Q : Exit → Act → World → Prop} {γ : Nat → Value} {listed : Array Bool} {a : Act} {w : World} {i d : Nat} {o : Oper} {f : FuncId} {args : Array Value} (hF : FrI ops (valH av ext val0 γ) a0 listed a) (hC : Clo ops listed) (ho : ops[i]? = some o) (h2 : ∀ e ∈ o.after, Region.binds .any e = true → listed.getD e.on false = true)
    (hna : i ∉ acts) (hd : o.dst = some d) (hg : o.guard = none) (hav : av d = none) (hrun : (execOp a.eval o).run Tryz.prog w = .ok (.enter f args) w) (hc : Calls Tryz.prog f args w fun e w' => e = .returned (val0 d) ∧ Kp w w') (hk : ∀ w', Kp w w' → Wd (upOf listed acts) γ w') :
    wpOp Tryz.prog ops Q i (fun a' w' => InvH ops acts av ext val0 Wd a0 (listed.setIfInBounds i true) a' w') a w := by
  have hi := hF.lt ho
  unfold wpOp
  rw [ho]
  have hw : Region.wanted o (yielded ops a.tmps) = true := by unfold Region.wanted; rw [hg]
  simp only [hw, if_true]
  refine Or.inl ?_
  unfold Oper.wp
  rw [hrun]
  have e : valH av ext val0 γ d = val0 d := by unfold valH; rw [hav]
  refine Calls.mono hc ?_
  rintro e' w' ⟨rfl, hkk⟩
  refine ⟨γ, ?_, hC.set hi ho h2, by rw [upOf_ne hi hna]; exact hk w' hkk⟩
  have := hF.put ho hd
  rw [e] at this
  exact this
/-- A variable made from B on: zs until it is laid into, vs from then on. -/
def VL (w : World) (B : Nat) (u : Value) (done : Bool) (zs vs : List Value) : Prop :=
  ∃ g, u = .pointer (some ⟨g, 0, none⟩) ∧ B ≤ g ∧ g < w.heap.size ∧ (∀ o, w.frozen? ⟨g, o, none⟩ = false) ∧ ∀ j, j < zs.length → w.cell? ⟨g, j, none⟩ = (bif done then vs else zs)[j]?
theorem VL.nw {w w' : World} {B : Nat} {u : Value} {done : Bool} {zs vs : List Value} (h : VL w B u done zs vs) (k : Nw w w') : VL w' B u done zs vs := by
  obtain ⟨g, h1, h2, h3, h4, h5⟩ := h
  exact ⟨g, h1, h2, Nat.lt_of_lt_of_le h3 (Below.size k), fun o => ((bcell k).2 _ _ h3).trans (h4 o), fun j hj => ((bcell k).1 _ _ h3).trans (h5 j hj)⟩
theorem setL_other (b g : Nat) (hne : g ≠ b) : ∀ (cs : List Value) (w : World) (j i : Nat), (setL w b cs j).cell? ⟨g, i, none⟩ = w.cell? ⟨g, i, none⟩
  | [], _, _, _ => rfl
  | c :: cs, w, j, i => by
    unfold setL
    rw [setL_other b g hne cs, World.cell?_setCell_other _ _ _ _ (fun e => by injection e; omega)]
theorem setL_kp (b : Nat) {W : World} (hb : W.heap.size ≤ b) : ∀ (cs : List Value) (w : World) (j : Nat), Kp W w → Kp W (setL w b cs j)
  | [], _, _, h => h
  | c :: cs, w, j, h => setL_kp b hb cs _ (j + 1) (h.setCell hb _)
theorem VL.off {w : World} {B : Nat} {u : Value} {done : Bool} {zs vs : List Value} (h : VL w B u done zs vs) (g : Nat) (cs : List Value) (hne : u ≠ .pointer (some ⟨g, 0, none⟩)) : VL (setL w g cs 0) B u done zs vs := by
  obtain ⟨b, rfl, h2, h3, h4, h5⟩ := h
  have hb : b ≠ g := fun e => hne (by rw [e])
  exact ⟨b, rfl, h2, by rw [setL_size]; exact h3, fun o => by rw [setL_frozen]; exact h4 o, fun j hj => by rw [setL_other g b hb]; exact h5 j hj⟩
theorem VL.new {w : World} {B : Nat} (hB : B ≤ w.heap.size) (zs vs : List Value) (t : TypeId) : VL (w.alloc (.cells zs.toArray t)) B (.pointer (some ⟨w.heap.size, 0, none⟩)) false zs vs :=
  ⟨_, rfl, hB, by simp, fun o => World.frozen?_alloc_at _ _ _ _ rfl, fun j hj => by rw [World.cell?_alloc_at _ _ _ _ rfl]; simp⟩
theorem VL.fresh {w : World} {B : Nat} {u : Value} {done : Bool} {zs vs : List Value} (h : VL w B u done zs vs) : u ≠ .pointer (some ⟨w.heap.size, 0, none⟩) := by
  obtain ⟨g, rfl, _, h3, _⟩ := h
  intro e
  injection e with e; injection e with e; injection e with e
  omega
theorem VL.store {w : World} {B : Nat} {u : Value} {done : Bool} {zs vs : List Value} {g : Nat} (h : VL w B u done zs vs) (hl : vs.length = zs.length) (hu : u = .pointer (some ⟨g, 0, none⟩)) : VL (setL w g vs 0) B u true zs vs := by
  obtain ⟨b, h1, h2, h3, h4, h5⟩ := h
  rw [hu] at h1
  injection h1 with h1; injection h1 with h1; injection h1 with h1
  subst h1
  have hat := setL_at g vs w 0 (fun i hi => by
    rw [Nat.zero_add, h5 i (by omega)]
    cases done
    · exact ⟨_, List.getElem?_eq_getElem (by simpa using (by omega : i < zs.length))⟩
    · exact ⟨_, List.getElem?_eq_getElem (by simpa using hi)⟩)
  exact ⟨g, hu, h2, by rw [setL_size]; exact h3, fun o => by rw [setL_frozen]; exact h4 o, fun j hj => by have := hat j (by omega); rw [Nat.zero_add] at this; exact this⟩
/-- Two variables, made by 0 and 1, laid into by 2 and 3. -/
structure TwoWd (W : World) (zs va vb : List Value) (S : Nat → Bool) (γ : Nat → Value) (w : World) : Prop where
  kp : Kp W w
  l0 : S 0 = true → VL w W.heap.size (γ 0) (S 2) zs va
  l1 : S 1 = true → VL w W.heap.size (γ 1) (S 3) zs vb
  ne : S 0 = true → S 1 = true → γ 0 ≠ γ 1
theorem TwoWd.start (W : World) (zs va vb : List Value) (γ : Nat → Value) (w : World) (h : Kp W w) : TwoWd W zs va vb (fun _ => false) γ w := ⟨h, fun h => (by cases h), fun h => (by cases h), fun h => (by cases h)⟩
theorem TwoWd.keep {W : World} {zs va vb : List Value} {S : Nat → Bool} {γ : Nat → Value} {w w' : World} (h : TwoWd W zs va vb S γ w) (k : Kp w w') : TwoWd W zs va vb S γ w' :=
  ⟨Kp.trans h.kp k, fun hs => (h.l0 hs).nw k.nw, fun hs => (h.l1 hs).nw k.nw, h.ne⟩
theorem TwoWd.alloc0 {W : World} {zs va vb : List Value} {S : Nat → Bool} {γ : Nat → Value} {w : World} (h : TwoWd W zs va vb S γ w) (hno : S 2 = false) (t : TypeId) : TwoWd W zs va vb (upS S 0) (updG γ 0 (.pointer (some ⟨w.heap.size, 0, none⟩))) (w.alloc (.cells zs.toArray t)) := by
  have n1 : Nw w (w.alloc (.cells zs.toArray t)) := (Below.refl _ _).alloc (Nat.le_refl _) _
  refine ⟨h.kp.alloc _ _, ?_, ?_, ?_⟩
  · intro _
    rw [updG_at, upS_ne (by decide), hno]
    exact VL.new (Kp.size h.kp) _ _ _
  · intro hs
    rw [upS_ne (by decide)] at hs
    rw [updG_ne (by decide), upS_ne (by decide)]
    exact (h.l1 hs).nw n1
  · intro hs0 hs1
    rw [upS_ne (by decide)] at hs1
    rw [updG_at, updG_ne (by decide)]
    exact fun e => VL.fresh (h.l1 hs1) e.symm
theorem TwoWd.alloc1 {W : World} {zs va vb : List Value} {S : Nat → Bool} {γ : Nat → Value} {w : World} (h : TwoWd W zs va vb S γ w) (hno : S 3 = false) (t : TypeId) : TwoWd W zs va vb (upS S 1) (updG γ 1 (.pointer (some ⟨w.heap.size, 0, none⟩))) (w.alloc (.cells zs.toArray t)) := by
  have n1 : Nw w (w.alloc (.cells zs.toArray t)) := (Below.refl _ _).alloc (Nat.le_refl _) _
  refine ⟨h.kp.alloc _ _, ?_, ?_, ?_⟩
  · intro hs
    rw [upS_ne (by decide)] at hs
    rw [updG_ne (by decide), upS_ne (by decide)]
    exact (h.l0 hs).nw n1
  · intro _
    rw [updG_at, upS_ne (by decide), hno]
    exact VL.new (Kp.size h.kp) _ _ _
  · intro hs0 hs1
    rw [upS_ne (by decide)] at hs0
    rw [updG_at, updG_ne (by decide)]
    exact VL.fresh (h.l0 hs0)
theorem TwoWd.store0 {W : World} {zs va vb : List Value} {S : Nat → Bool} {γ : Nat → Value} {w : World} (h : TwoWd W zs va vb S γ w) (hs0 : S 0 = true) (hl : va.length = zs.length) {g : Nat} (hg : γ 0 = .pointer (some ⟨g, 0, none⟩)) (u : Value) : TwoWd W zs va vb (upS S 2) (updG γ 2 u) (setL w g va 0) := by
  obtain ⟨g', g1, g2, _⟩ := h.l0 hs0
  rw [hg] at g1
  injection g1 with g1; injection g1 with g1; injection g1 with g1
  subst g1
  refine ⟨setL_kp g g2 _ _ _ h.kp, ?_, ?_, ?_⟩
  · intro _
    rw [updG_ne (by decide), upS_at]
    exact VL.store (h.l0 hs0) hl hg
  · intro hs
    rw [upS_ne (by decide)] at hs
    rw [updG_ne (by decide), upS_ne (by decide)]
    exact (h.l1 hs).off g va (by rw [← hg]; exact (h.ne hs0 hs).symm)
  · intro h0 h1
    rw [upS_ne (by decide)] at h0 h1
    rw [updG_ne (by decide), updG_ne (by decide)]
    exact h.ne h0 h1
theorem TwoWd.store1 {W : World} {zs va vb : List Value} {S : Nat → Bool} {γ : Nat → Value} {w : World} (h : TwoWd W zs va vb S γ w) (hs1 : S 1 = true) (hl : vb.length = zs.length) {g : Nat} (hg : γ 1 = .pointer (some ⟨g, 0, none⟩)) (u : Value) : TwoWd W zs va vb (upS S 3) (updG γ 3 u) (setL w g vb 0) := by
  obtain ⟨g', g1, g2, _⟩ := h.l1 hs1
  rw [hg] at g1
  injection g1 with g1; injection g1 with g1; injection g1 with g1
  subst g1
  refine ⟨setL_kp g g2 _ _ _ h.kp, ?_, ?_, ?_⟩
  · intro hs
    rw [upS_ne (by decide)] at hs
    rw [updG_ne (by decide), upS_ne (by decide)]
    exact (h.l0 hs).off g vb (by rw [← hg]; exact h.ne hs hs1)
  · intro _
    rw [updG_ne (by decide), upS_at]
    exact VL.store (h.l1 hs1) hl hg
  · intro h0 h1
    rw [upS_ne (by decide)] at h0 h1
    rw [updG_ne (by decide), updG_ne (by decide)]
    exact h.ne h0 h1
/-- All have come up. -/
theorem TwoWd.fin {W : World} {zs va vb : List Value} {S : Nat → Bool} {γ : Nat → Value} {w : World} (h : TwoWd W zs va vb S γ w) (hs : ∀ k, k < 4 → S k = true) : ∃ g0 g1, γ 0 = .pointer (some ⟨g0, 0, none⟩) ∧ γ 1 = .pointer (some ⟨g1, 0, none⟩) ∧ Kp W w ∧ W.heap.size ≤ g0 ∧ W.heap.size ≤ g1 ∧ g0 ≠ g1 ∧ (∀ j, j < zs.length → w.cell? ⟨g0, j, none⟩ = va[j]?) ∧ (∀ j, j < zs.length → w.cell? ⟨g1, j, none⟩ = vb[j]?) := by
  have a := h.l0 (hs 0 (by decide))
  have b := h.l1 (hs 1 (by decide))
  have n := h.ne (hs 0 (by decide)) (hs 1 (by decide))
  rw [hs 2 (by decide)] at a
  rw [hs 3 (by decide)] at b
  obtain ⟨g0, p1, p2, _, _, p5⟩ := a
  obtain ⟨g1, q1, q2, _, _, q5⟩ := b
  exact ⟨g0, g1, p1, q1, h.kp, p2, q2, fun e => n (by rw [p1, q1, e]), p5, q5⟩
end Go.Proofs.YtfdjjbgcaojcnaaGreat
namespace Go.Proofs.YtfdjjbgcaojcnaaGreat
open Go.ChangeShapes Go.WideShapes Go.ChangeAt Go.RowKit
set_option linter.unusedVariables false

structure SO6 where
  bl : Nat
  bp : Nat
  sa : Option Addr
  sn : Nat
  sc : Nat
  cl : Bool
  h : Int
  j : Int
  fv : Value
  P1 : World → Value → Prop
  P2 : World → Value → Value → Prop
  R : World → Value → Prop
  W : World
  a0 : Act
structure SO6Ok (X : SO6) : Prop where
  cc : X.W.cell? ⟨X.bl, 1, none⟩ = some (.bool X.cl)
  cj : X.W.cell? ⟨X.bp, 1, none⟩ = some (.int .i64 X.j)
  h1 : Calls Tryz.prog 72 #[.slice X.sa X.sn X.sc] X.W fun e w' => ∃ v, e = .returned v ∧ X.P1 w' v
  n1 : ∀ w v, X.P1 w v → Nw X.W w ∧ ∃ a n c, v = .slice a n c
  hj : ∀ w, Calls Tryz.prog 74 #[.int .i64 X.j] w fun e w' => e = .returned X.fv ∧ w' = w
  h2 : ∀ w v, X.P1 w v → Calls Tryz.prog 73 #[.slice X.sa X.sn X.sc, .bool X.cl, .int .i64 X.h, X.fv] w fun e w' => ∃ v', e = .returned v' ∧ X.P2 w' v v'
  n2 : ∀ w v v', X.P2 w v v' → Nw X.W w ∧ (∃ a n c, v = .slice a n c) ∧ ∃ a n c, v' = .slice a n c
  h3 : ∀ w v v', X.P2 w v v' → Calls Tryz.prog 71 #[.slice (some ⟨w.heap.size, 0, none⟩) 2 2] (w.alloc (.cells #[v, v'] 29)) fun e w' => ∃ u, e = .returned u ∧ X.R w' u
  e2 : X.a0.eval (.tmp 2) = .pointer (some ⟨X.bl, 0, none⟩)
  e3 : X.a0.eval (.tmp 3) = .pointer (some ⟨X.bp, 0, none⟩)
  e6 : X.a0.eval (.tmp 6) = .int .i64 (X.h)
  e7 : X.a0.eval (.tmp 7) = .slice X.sa X.sn X.sc
  sz : X.a0.tmps.size = 77
def SO6.val0 (X : SO6) : Nat → Value
  | 25 => .slice X.sa X.sn X.sc
  | 27 => .slice X.sa X.sn X.sc
  | 28 => .pointer (some ⟨X.bl, 1, none⟩)
  | 29 => .bool X.cl
  | 30 => .int .i64 (X.h)
  | 31 => .pointer (some ⟨X.bp, 1, none⟩)
  | 32 => .int .i64 (X.j)
  | _ => undef
def SO6.av : Nat → Option Nat
  | 26 => some 0
  | 33 => some 1
  | 34 => some 2
  | 35 => some 3
  | 36 => some 4
  | 8 => some 5
  | _ => none
def SO6.acts : List Nat := [1, 8, 9, 10, 11, 12]
/-- The world, by how many of the acting ones have come up. -/
def SO6.Wd (X : SO6) : Nat → (Nat → Value) → World → Prop
  | 0, _, w => w = X.W
  | 1, γ, w => X.P1 w (γ 0)
  | 2, γ, w => γ 1 = X.fv ∧ X.P1 w (γ 0)
  | 3, γ, w => X.P2 w (γ 0) (γ 2)
  | 4, γ, w => ∃ w1, X.P2 w1 (γ 0) (γ 2) ∧ γ 3 = .slice (some ⟨w1.heap.size, 0, none⟩) 2 2 ∧ w = w1.alloc (.cells #[γ 0, γ 2] 29)
  | 5, γ, w => X.R w (γ 4)
  | _, γ, w => X.R w (γ 5)
theorem SO6.nw {X : SO6} (ok : ∀ w v, X.P1 w v → Nw X.W w) : ∀ {n : Nat} {γ : Nat → Value} {w : World}, n ≤ 2 → X.Wd n γ w → Nw X.W w
  | 0, _, w, _, h => by have : w = X.W := h; rw [this]; exact Below.refl _ _
  | 1, _, _, _, h => ok _ _ h
  | 2, _, _, _, ⟨_, h⟩ => ok _ _ h
  | _ + 3, _, _, h, _ => absurd h (by omega)
theorem SO6.chain : chainG (opsOf 6 Tryz.f43) SO6.acts = true := by kernel_rfl
theorem SO6.nodup : SO6.acts.Nodup := by decide
theorem SO6.inj {listed : Array Bool} {i k : Nat} (h : (List.range (opsOf 6 Tryz.f43).size).all (fun j => decide (j = i) || !(match dstOf (opsOf 6 Tryz.f43) j with | some d => decide (SO6.av d = some k) | none => false)) = true) (hu : listed.getD i false = false) : ∀ d, got (opsOf 6 Tryz.f43) listed d → SO6.av d ≠ some k := by
  rintro d ⟨j, h1, h2⟩ h3
  have hlt : j < (opsOf 6 Tryz.f43).size := by
    rcases Nat.lt_or_ge j (opsOf 6 Tryz.f43).size with h4 | h4
    · exact h4
    · unfold dstOf at h2; rw [Array.getElem?_eq_none h4] at h2; cases h2
  have h5 := List.all_eq_true.1 h j (List.mem_range.2 hlt)
  rw [h2] at h5
  simp only [h3, decide_true, Bool.not_true, Bool.or_false, decide_eq_true_eq] at h5
  subst h5
  rw [hu] at h1
  cases h1
theorem SO6.s0 (X : SO6) (ok : SO6Ok X) {Q : Exit → Act → World → Prop} : StepG (opsOf 6 Tryz.f43) SO6.acts SO6.av X.val0 X.Wd X.a0 Q 0 := by
  intro γ listed a w o hF hC hW h1 ho h2
  obtain ⟨hd, hop, hg⟩ := fields2 (x := some 25) (y := Op.move (.tmp 7)) (z := none) (by kernel_rfl) ho
  have e7 : a.eval (.tmp 7) = .slice X.sa X.sn X.sc := (hF.eval0 (by kernel_rfl)).trans ok.e7
  refine st_pureG hF hC hW ho h2 (by decide) hd hg rfl ?_
  show _ = Result.ok (Next.value (.slice X.sa X.sn X.sc)) w
  generalize a.eval = ρ at e7 ⊢
  unfold execOp
  rw [hop]
  simp [e7, go_sem]
theorem SO6.s1 (X : SO6) (ok : SO6Ok X) {Q : Exit → Act → World → Prop} : StepG (opsOf 6 Tryz.f43) SO6.acts SO6.av X.val0 X.Wd X.a0 Q 1 := by
  intro γ listed a w o hF hC hW h1 ho h2
  obtain ⟨hd, hop, hg⟩ := fields2 (x := some 26) (y := Op.call { callee := .value (.func 72), args := #[(.tmp 25)], argTypes := #[102] }) (z := none) (by kernel_rfl) ho
  have e25 : a.eval (.tmp 25) = .slice X.sa X.sn X.sc := slotG hF ho h2 (j := 0) (d := 25) (by kernel_rfl) (by kernel_rfl) (by rw [ok.sz]; decide)
  have ef : a.eval (.func 72) = .func (.func 72) #[] #[] := rfl
  have hu := unl (hF.lt ho) h1
  refine st_actG (k := 0) SO6.chain SO6.nodup rfl hF hC hW h1 ho h2 (Or.inr ⟨26, hd, rfl⟩) (SO6.inj (by kernel_rfl) hu) hg ?_
  intro hW0 K hK
  have hw0 : w = X.W := hW0
  have hr : (execOp a.eval o).run Tryz.prog w = .ok (.enter 72 #[.slice X.sa X.sn X.sc]) w := by
    generalize a.eval = ρ at e25 ef ⊢
    unfold execOp
    rw [hop]
    simp [e25, ef, go_sem]
  unfold Oper.wp
  rw [hr]
  refine Calls.mono (by rw [hw0]; exact ok.h1) ?_
  rintro e w' ⟨v, rfl, h⟩
  exact hK _ _ h
theorem SO6.s2 (X : SO6) (ok : SO6Ok X) {Q : Exit → Act → World → Prop} : StepG (opsOf 6 Tryz.f43) SO6.acts SO6.av X.val0 X.Wd X.a0 Q 2 := by
  intro γ listed a w o hF hC hW h1 ho h2
  obtain ⟨hd, hop, hg⟩ := fields2 (x := some 27) (y := Op.move (.tmp 7)) (z := none) (by kernel_rfl) ho
  have e7 : a.eval (.tmp 7) = .slice X.sa X.sn X.sc := (hF.eval0 (by kernel_rfl)).trans ok.e7
  refine st_pureG hF hC hW ho h2 (by decide) hd hg rfl ?_
  show _ = Result.ok (Next.value (.slice X.sa X.sn X.sc)) w
  generalize a.eval = ρ at e7 ⊢
  unfold execOp
  rw [hop]
  simp [e7, go_sem]
theorem SO6.s3 (X : SO6) (ok : SO6Ok X) {Q : Exit → Act → World → Prop} : StepG (opsOf 6 Tryz.f43) SO6.acts SO6.av X.val0 X.Wd X.a0 Q 3 := by
  intro γ listed a w o hF hC hW h1 ho h2
  obtain ⟨hd, hop, hg⟩ := fields2 (x := some 28) (y := Op.fieldAddr 25 (.tmp 2) 1) (z := none) (by kernel_rfl) ho
  have e2 : a.eval (.tmp 2) = .pointer (some ⟨X.bl, 0, none⟩) := (hF.eval0 (by kernel_rfl)).trans ok.e2
  refine st_pureG hF hC hW ho h2 (by decide) hd hg rfl ?_
  show _ = Result.ok (Next.value (.pointer (some ⟨X.bl, 1, none⟩))) w
  generalize a.eval = ρ at e2 ⊢
  unfold execOp
  rw [hop]
  simp [e2, go_sem]
theorem SO6.s4 (X : SO6) (ok : SO6Ok X) {Q : Exit → Act → World → Prop} : StepG (opsOf 6 Tryz.f43) SO6.acts SO6.av X.val0 X.Wd X.a0 Q 4 := by
  intro γ listed a w o hF hC hW h1 ho h2
  obtain ⟨hd, hop, hg⟩ := fields2 (x := some 29) (y := Op.load 4 (.tmp 28)) (z := none) (by kernel_rfl) ho
  have e28 : a.eval (.tmp 28) = .pointer (some ⟨X.bl, 1, none⟩) := slotG hF ho h2 (j := 3) (d := 28) (by kernel_rfl) (by kernel_rfl) (by rw [ok.sz]; decide)
  have hph := phase_leG (acts := SO6.acts) (m := 2) (x := 9) hC (unl (hF.lt ho) h1) rfl [4] (by kernel_rfl) (by decide)
  have hWW := hW
  generalize phase listed SO6.acts = n at hph hWW
  have hk : Nw X.W w := SO6.nw (fun w v h => (ok.n1 w v h).1) (by omega) hWW
  have hc0 := ((bcell hk).1 _ _ (World.block_lt_of_cell? X.W ⟨X.bl, 1, none⟩ ok.cc)).trans ok.cc
  refine st_pureG hF hC hW ho h2 (by decide) hd hg rfl ?_
  show _ = Result.ok (Next.value (.bool X.cl)) w
  generalize a.eval = ρ at e28 ⊢
  unfold execOp
  rw [hop]
  simp [e28, hc0, go_sem]
theorem SO6.s5 (X : SO6) (ok : SO6Ok X) {Q : Exit → Act → World → Prop} : StepG (opsOf 6 Tryz.f43) SO6.acts SO6.av X.val0 X.Wd X.a0 Q 5 := by
  intro γ listed a w o hF hC hW h1 ho h2
  obtain ⟨hd, hop, hg⟩ := fields2 (x := some 30) (y := Op.move (.tmp 6)) (z := none) (by kernel_rfl) ho
  have e6 : a.eval (.tmp 6) = .int .i64 (X.h) := (hF.eval0 (by kernel_rfl)).trans ok.e6
  refine st_pureG hF hC hW ho h2 (by decide) hd hg rfl ?_
  show _ = Result.ok (Next.value (.int .i64 (X.h))) w
  generalize a.eval = ρ at e6 ⊢
  unfold execOp
  rw [hop]
  simp [e6, go_sem]
theorem SO6.s6 (X : SO6) (ok : SO6Ok X) {Q : Exit → Act → World → Prop} : StepG (opsOf 6 Tryz.f43) SO6.acts SO6.av X.val0 X.Wd X.a0 Q 6 := by
  intro γ listed a w o hF hC hW h1 ho h2
  obtain ⟨hd, hop, hg⟩ := fields2 (x := some 31) (y := Op.fieldAddr 36 (.tmp 3) 1) (z := none) (by kernel_rfl) ho
  have e3 : a.eval (.tmp 3) = .pointer (some ⟨X.bp, 0, none⟩) := (hF.eval0 (by kernel_rfl)).trans ok.e3
  refine st_pureG hF hC hW ho h2 (by decide) hd hg rfl ?_
  show _ = Result.ok (Next.value (.pointer (some ⟨X.bp, 1, none⟩))) w
  generalize a.eval = ρ at e3 ⊢
  unfold execOp
  rw [hop]
  simp [e3, go_sem]
theorem SO6.s7 (X : SO6) (ok : SO6Ok X) {Q : Exit → Act → World → Prop} : StepG (opsOf 6 Tryz.f43) SO6.acts SO6.av X.val0 X.Wd X.a0 Q 7 := by
  intro γ listed a w o hF hC hW h1 ho h2
  obtain ⟨hd, hop, hg⟩ := fields2 (x := some 32) (y := Op.load 3 (.tmp 31)) (z := none) (by kernel_rfl) ho
  have e31 : a.eval (.tmp 31) = .pointer (some ⟨X.bp, 1, none⟩) := slotG hF ho h2 (j := 6) (d := 31) (by kernel_rfl) (by kernel_rfl) (by rw [ok.sz]; decide)
  have hph := phase_leG (acts := SO6.acts) (m := 1) (x := 8) hC (unl (hF.lt ho) h1) rfl [7] (by kernel_rfl) (by decide)
  have hWW := hW
  generalize phase listed SO6.acts = n at hph hWW
  have hk : Nw X.W w := SO6.nw (fun w v h => (ok.n1 w v h).1) (by omega) hWW
  have hc0 := ((bcell hk).1 _ _ (World.block_lt_of_cell? X.W ⟨X.bp, 1, none⟩ ok.cj)).trans ok.cj
  refine st_pureG hF hC hW ho h2 (by decide) hd hg rfl ?_
  show _ = Result.ok (Next.value (.int .i64 (X.j))) w
  generalize a.eval = ρ at e31 ⊢
  unfold execOp
  rw [hop]
  simp [e31, hc0, go_sem]
theorem SO6.s8 (X : SO6) (ok : SO6Ok X) {Q : Exit → Act → World → Prop} : StepG (opsOf 6 Tryz.f43) SO6.acts SO6.av X.val0 X.Wd X.a0 Q 8 := by
  intro γ listed a w o hF hC hW h1 ho h2
  obtain ⟨hd, hop, hg⟩ := fields2 (x := some 33) (y := Op.call { callee := .value (.func 74), args := #[(.tmp 32)], argTypes := #[3] }) (z := none) (by kernel_rfl) ho
  have e32 : a.eval (.tmp 32) = .int .i64 (X.j) := slotG hF ho h2 (j := 7) (d := 32) (by kernel_rfl) (by kernel_rfl) (by rw [ok.sz]; decide)
  have ef : a.eval (.func 74) = .func (.func 74) #[] #[] := rfl
  have hu := unl (hF.lt ho) h1
  refine st_actG (k := 1) SO6.chain SO6.nodup rfl hF hC hW h1 ho h2 (Or.inr ⟨33, hd, rfl⟩) (SO6.inj (by kernel_rfl) hu) hg ?_
  intro hW0 K hK
  have hr : (execOp a.eval o).run Tryz.prog w = .ok (.enter 74 #[.int .i64 X.j]) w := by
    generalize a.eval = ρ at e32 ef ⊢
    unfold execOp
    rw [hop]
    simp [e32, ef, go_sem]
  unfold Oper.wp
  rw [hr]
  refine Calls.mono (ok.hj _) ?_
  rintro e w' ⟨rfl, rfl⟩
  exact hK _ _ ⟨rfl, hW0⟩
theorem SO6.s9 (X : SO6) (ok : SO6Ok X) {Q : Exit → Act → World → Prop} : StepG (opsOf 6 Tryz.f43) SO6.acts SO6.av X.val0 X.Wd X.a0 Q 9 := by
  intro γ listed a w o hF hC hW h1 ho h2
  obtain ⟨hd, hop, hg⟩ := fields2 (x := some 34) (y := Op.call { callee := .value (.func 73), args := #[(.tmp 27), (.tmp 29), (.tmp 30), (.tmp 33)], argTypes := #[102, 4, 3, 107] }) (z := none) (by kernel_rfl) ho
  have e27 : a.eval (.tmp 27) = .slice X.sa X.sn X.sc := slotG hF ho h2 (j := 2) (d := 27) (by kernel_rfl) (by kernel_rfl) (by rw [ok.sz]; decide)
  have e29 : a.eval (.tmp 29) = .bool X.cl := slotG hF ho h2 (j := 4) (d := 29) (by kernel_rfl) (by kernel_rfl) (by rw [ok.sz]; decide)
  have e30 : a.eval (.tmp 30) = .int .i64 (X.h) := slotG hF ho h2 (j := 5) (d := 30) (by kernel_rfl) (by kernel_rfl) (by rw [ok.sz]; decide)
  have e33 : a.eval (.tmp 33) = γ 1 := slotG hF ho h2 (j := 8) (d := 33) (by kernel_rfl) (by kernel_rfl) (by rw [ok.sz]; decide)
  have ef : a.eval (.func 73) = .func (.func 73) #[] #[] := rfl
  have hu := unl (hF.lt ho) h1
  refine st_actG (k := 2) SO6.chain SO6.nodup rfl hF hC hW h1 ho h2 (Or.inr ⟨34, hd, rfl⟩) (SO6.inj (by kernel_rfl) hu) hg ?_
  intro hW0 K hK
  obtain ⟨g1, hP⟩ := hW0
  rw [g1] at e33
  have hr : (execOp a.eval o).run Tryz.prog w = .ok (.enter 73 #[.slice X.sa X.sn X.sc, .bool X.cl, .int .i64 X.h, X.fv]) w := by
    generalize a.eval = ρ at e27 e29 e30 e33 ef ⊢
    unfold execOp
    rw [hop]
    simp [e27, e29, e30, e33, ef, go_sem]
  unfold Oper.wp
  rw [hr]
  refine Calls.mono (ok.h2 _ _ hP) ?_
  rintro e w' ⟨v, rfl, h⟩
  exact hK _ _ h
theorem SO6.s10 (X : SO6) (ok : SO6Ok X) {Q : Exit → Act → World → Prop} : StepG (opsOf 6 Tryz.f43) SO6.acts SO6.av X.val0 X.Wd X.a0 Q 10 := by
  intro γ listed a w o hF hC hW h1 ho h2
  obtain ⟨hd, hop, hg⟩ := fields2 (x := some 35) (y := Op.buildSlice 126 2 #[(0, (.tmp 26)), (1, (.tmp 34))]) (z := none) (by kernel_rfl) ho
  have e26 : a.eval (.tmp 26) = γ 0 := slotG hF ho h2 (j := 1) (d := 26) (by kernel_rfl) (by kernel_rfl) (by rw [ok.sz]; decide)
  have e34 : a.eval (.tmp 34) = γ 2 := slotG hF ho h2 (j := 9) (d := 34) (by kernel_rfl) (by kernel_rfl) (by rw [ok.sz]; decide)
  have hu := unl (hF.lt ho) h1
  refine st_actG (k := 3) SO6.chain SO6.nodup rfl hF hC hW h1 ho h2 (Or.inr ⟨35, hd, rfl⟩) (SO6.inj (by kernel_rfl) hu) hg ?_
  intro hW0 K hK
  obtain ⟨_, ⟨a1, n1, c1, q1⟩, ⟨a2, n2, c2, q2⟩⟩ := ok.n2 _ _ _ hW0
  have hr : (execOp a.eval o).run Tryz.prog w = .ok (.value (.slice (some ⟨w.heap.size, 0, none⟩) 2 2)) (w.alloc (.cells #[γ 0, γ 2] 29)) := by
    rw [q1] at e26 ⊢
    rw [q2] at e34 ⊢
    generalize a.eval = ρ at e26 e34 ⊢
    unfold execOp
    rw [hop]
    simp [e26, e34, go_sem]
  unfold Oper.wp
  rw [hr]
  exact hK _ _ ⟨w, hW0, rfl, rfl⟩
theorem SO6.s11 (X : SO6) (ok : SO6Ok X) {Q : Exit → Act → World → Prop} : StepG (opsOf 6 Tryz.f43) SO6.acts SO6.av X.val0 X.Wd X.a0 Q 11 := by
  intro γ listed a w o hF hC hW h1 ho h2
  obtain ⟨hd, hop, hg⟩ := fields2 (x := some 36) (y := Op.call { callee := .value (.func 71), args := #[(.tmp 35)], argTypes := #[126] }) (z := none) (by kernel_rfl) ho
  have e35 : a.eval (.tmp 35) = γ 3 := slotG hF ho h2 (j := 10) (d := 35) (by kernel_rfl) (by kernel_rfl) (by rw [ok.sz]; decide)
  have ef : a.eval (.func 71) = .func (.func 71) #[] #[] := rfl
  have hu := unl (hF.lt ho) h1
  refine st_actG (k := 4) SO6.chain SO6.nodup rfl hF hC hW h1 ho h2 (Or.inr ⟨36, hd, rfl⟩) (SO6.inj (by kernel_rfl) hu) hg ?_
  intro hW0 K hK
  obtain ⟨w1, hP, g3, hw⟩ := hW0
  rw [g3] at e35
  have hr : (execOp a.eval o).run Tryz.prog w = .ok (.enter 71 #[.slice (some ⟨w1.heap.size, 0, none⟩) 2 2]) w := by
    generalize a.eval = ρ at e35 ef ⊢
    unfold execOp
    rw [hop]
    simp [e35, ef, go_sem]
  unfold Oper.wp
  rw [hr]
  refine Calls.mono (by rw [hw]; exact ok.h3 _ _ _ hP) ?_
  rintro e w' ⟨v, rfl, h⟩
  exact hK _ _ h
theorem SO6.s12 (X : SO6) (ok : SO6Ok X) {Q : Exit → Act → World → Prop} : StepG (opsOf 6 Tryz.f43) SO6.acts SO6.av X.val0 X.Wd X.a0 Q 12 := by
  intro γ listed a w o hF hC hW h1 ho h2
  obtain ⟨hd, hop, hg⟩ := fields2 (x := some 8) (y := Op.assign (.tmp 36)) (z := none) (by kernel_rfl) ho
  have e36 : a.eval (.tmp 36) = γ 4 := slotG hF ho h2 (j := 11) (d := 36) (by kernel_rfl) (by kernel_rfl) (by rw [ok.sz]; decide)
  have hu := unl (hF.lt ho) h1
  refine st_actG (k := 5) SO6.chain SO6.nodup rfl hF hC hW h1 ho h2 (Or.inr ⟨8, hd, rfl⟩) (SO6.inj (by kernel_rfl) hu) hg ?_
  intro hW0 K hK
  have hr : (execOp a.eval o).run Tryz.prog w = .ok (.value (γ 4)) w := by
    generalize a.eval = ρ at e36 ⊢
    unfold execOp
    rw [hop]
    simp [e36, go_sem]
  unfold Oper.wp
  rw [hr]
  exact hK _ _ hW0
theorem SO6.size : (opsOf 6 Tryz.f43).size = 13 := by kernel_rfl
theorem SO6.steps (X : SO6) (ok : SO6Ok X) {Q : Exit → Act → World → Prop} (i : Nat) (hi : i < (opsOf 6 Tryz.f43).size) : StepG (opsOf 6 Tryz.f43) SO6.acts SO6.av X.val0 X.Wd X.a0 Q i := by
  rw [SO6.size] at hi
  have hc : i = 0 ∨ i = 1 ∨ i = 2 ∨ i = 3 ∨ i = 4 ∨ i = 5 ∨ i = 6 ∨ i = 7 ∨ i = 8 ∨ i = 9 ∨ i = 10 ∨ i = 11 ∨ i = 12 := by omega
  rcases hc with rfl | rfl | rfl | rfl | rfl | rfl | rfl | rfl | rfl | rfl | rfl | rfl | rfl
  · exact SO6.s0 X ok
  · exact SO6.s1 X ok
  · exact SO6.s2 X ok
  · exact SO6.s3 X ok
  · exact SO6.s4 X ok
  · exact SO6.s5 X ok
  · exact SO6.s6 X ok
  · exact SO6.s7 X ok
  · exact SO6.s8 X ok
  · exact SO6.s9 X ok
  · exact SO6.s10 X ok
  · exact SO6.s11 X ok
  · exact SO6.s12 X ok
theorem SO6.puts (X : SO6) (γ : Nat → Value) (a0 : Act) : putsL (valG SO6.av X.val0 γ) (opsOf 6 Tryz.f43).toList a0 = (((((((((((((a0.put (some 25) (.slice X.sa X.sn X.sc)).put (some 26) (γ 0)).put (some 27) (.slice X.sa X.sn X.sc)).put (some 28) (.pointer (some ⟨X.bl, 1, none⟩))).put (some 29) (.bool X.cl)).put (some 30) (.int .i64 (X.h))).put (some 31) (.pointer (some ⟨X.bp, 1, none⟩))).put (some 32) (.int .i64 (X.j))).put (some 33) (γ 1)).put (some 34) (γ 2)).put (some 35) (γ 3)).put (some 36) (γ 4)).put (some 8) (γ 5)) := by kernel_rfl
/-- The region, whatever order comes up. -/
theorem SO6.run (X : SO6) (ok : SO6Ok X) {Q : Exit → Act → World → Prop} (w : World) (h0 : X.Wd 0 (fun _ => undef) w.drew) (hend : ∀ (γ : Nat → Value) w', X.Wd 6 γ w' → Q .normal (((((((((((((X.a0.put (some 25) (.slice X.sa X.sn X.sc)).put (some 26) (γ 0)).put (some 27) (.slice X.sa X.sn X.sc)).put (some 28) (.pointer (some ⟨X.bl, 1, none⟩))).put (some 29) (.bool X.cl)).put (some 30) (.int .i64 (X.h))).put (some 31) (.pointer (some ⟨X.bp, 1, none⟩))).put (some 32) (.int .i64 (X.j))).put (some 33) (γ 1)).put (some 34) (γ 2)).put (some 35) (γ 3)).put (some 36) (γ 4)).put (some 8) (γ 5)) w') : (Code.region 6 (opsOf 6 Tryz.f43) true).wp Tryz.prog Q X.a0 w := by
  refine reg_act (acts := SO6.acts) (av := SO6.av) (val0 := X.val0) (Wd := X.Wd) (by kernel_rfl) (by kernel_rfl) (by rw [SO6.size]; decide) (fun i hi => SO6.steps X ok i hi) _ h0 ?_
  intro γ w' h
  rw [SO6.puts]
  exact hend γ w' h
structure SO10 where
  f0 : Int
  f1 : Int
  f2 : Int
  f3 : Int
  f4 : Int
  f5 : Int
  l0 : Int
  l1 : Int
  l2 : Int
  l3 : Int
  l4 : Int
  l5 : Int
  g : Nat
  m : Nat
  c : Nat
  W : World
  a0 : Act
structure SO10Ok (X : SO10) : Prop where
  f0_ : X.W.cell? ⟨X.g, 0, none⟩ = some (.int .i64 X.f0)
  f1_ : X.W.cell? ⟨X.g, 1, none⟩ = some (.int .i64 X.f1)
  f2_ : X.W.cell? ⟨X.g, 2, none⟩ = some (.int .i64 X.f2)
  f3_ : X.W.cell? ⟨X.g, 3, none⟩ = some (.int .i64 X.f3)
  f4_ : X.W.cell? ⟨X.g, 4, none⟩ = some (.int .i64 X.f4)
  f5_ : X.W.cell? ⟨X.g, 5, none⟩ = some (.int .i64 X.f5)
  l0_ : X.W.cell? ⟨X.g, X.m * 6, none⟩ = some (.int .i64 X.l0)
  l1_ : X.W.cell? ⟨X.g, X.m * 6 + 1, none⟩ = some (.int .i64 X.l1)
  l2_ : X.W.cell? ⟨X.g, X.m * 6 + 2, none⟩ = some (.int .i64 X.l2)
  l3_ : X.W.cell? ⟨X.g, X.m * 6 + 3, none⟩ = some (.int .i64 X.l3)
  l4_ : X.W.cell? ⟨X.g, X.m * 6 + 4, none⟩ = some (.int .i64 X.l4)
  l5_ : X.W.cell? ⟨X.g, X.m * 6 + 5, none⟩ = some (.int .i64 X.l5)
  wr : IntKind.i64.wrap (X.m : Int) = (X.m : Int)
  lt : ¬ ((X.m : Int) + 1 ≤ (X.m : Int))
  e7 : X.a0.eval (.tmp 7) = .slice (some ⟨X.g, 0, none⟩) (X.m + 1) X.c
  sz : X.a0.tmps.size = 77
def SO10.val0 (X : SO10) : Nat → Value
  | 43 => .slice (some ⟨X.g, 0, none⟩) (X.m + 1) X.c
  | 44 => .pointer (some ⟨X.g, 0, none⟩)
  | 45 => .agg #[.int .i64 X.f0, .int .i64 X.f1, .int .i64 X.f2, .int .i64 X.f3, .int .i64 X.f4, .int .i64 X.f5]
  | 46 => .slice (some ⟨X.g, 0, none⟩) (X.m + 1) X.c
  | 47 => .slice (some ⟨X.g, 0, none⟩) (X.m + 1) X.c
  | 48 => .int .i64 ((X.m + 1 : Nat) : Int)
  | 49 => .int .i64 (X.m : Int)
  | 50 => .pointer (some ⟨X.g, X.m * 6, none⟩)
  | 51 => .agg #[.int .i64 X.l0, .int .i64 X.l1, .int .i64 X.l2, .int .i64 X.l3, .int .i64 X.l4, .int .i64 X.l5]
  | _ => undef
def SO10.av : Nat → Option Nat
  | 10 => some 0
  | 11 => some 1
  | _ => none
def SO10.ext : Nat → Value → Value
  | _ => fun u => u
def SO10.acts : List Nat := [9, 10, 11, 12]
theorem SO10.nodup : SO10.acts.Nodup := by decide
abbrev SO10.Wd (X : SO10) : (Nat → Bool) → (Nat → Value) → World → Prop := TwoWd X.W [.int .i64 0, .int .i64 0, .int .i64 0, .int .i64 0, .int .i64 0, .int .i64 0] [.int .i64 X.f0, .int .i64 X.f1, .int .i64 X.f2, .int .i64 X.f3, .int .i64 X.f4, .int .i64 X.f5] [.int .i64 X.l0, .int .i64 X.l1, .int .i64 X.l2, .int .i64 X.l3, .int .i64 X.l4, .int .i64 X.l5]
theorem SO10.s0 (X : SO10) (ok : SO10Ok X) {Q : Exit → Act → World → Prop} : StepH (opsOf 10 Tryz.f43) SO10.acts SO10.av SO10.ext X.val0 X.Wd X.a0 Q 0 := by
  intro γ listed a w o hF hC hW h1 ho h2
  obtain ⟨hd, hop, hg⟩ := fields2 (x := some 43) (y := Op.move (.tmp 7)) (z := none) (by kernel_rfl) ho
  have e7 : a.eval (.tmp 7) = .slice (some ⟨X.g, 0, none⟩) (X.m + 1) X.c := (hF.eval0 (by kernel_rfl)).trans ok.e7
  refine st_pureH hF hC hW ho h2 (by decide) hd hg ?_
  show _ = Result.ok (Next.value (.slice (some ⟨X.g, 0, none⟩) (X.m + 1) X.c)) w
  generalize a.eval = ρ at e7 ⊢
  unfold execOp
  rw [hop]
  simp [e7, go_sem]
theorem SO10.s1 (X : SO10) (ok : SO10Ok X) {Q : Exit → Act → World → Prop} : StepH (opsOf 10 Tryz.f43) SO10.acts SO10.av SO10.ext X.val0 X.Wd X.a0 Q 1 := by
  intro γ listed a w o hF hC hW h1 ho h2
  obtain ⟨hd, hop, hg⟩ := fields2 (x := some 44) (y := Op.indexAddr 102 (.tmp 43) (.const (.int .i64 0))) (z := none) (by kernel_rfl) ho
  have e43 : a.eval (.tmp 43) = .slice (some ⟨X.g, 0, none⟩) (X.m + 1) X.c := slotH hF ho h2 (j := 0) (d := 43) (by kernel_rfl) (by kernel_rfl) (by rw [ok.sz]; decide)
  have ec1 : a.eval (.const (.int .i64 0)) = .int .i64 0 := rfl
  refine st_pureH hF hC hW ho h2 (by decide) hd hg ?_
  show _ = Result.ok (Next.value (.pointer (some ⟨X.g, 0, none⟩))) w
  generalize a.eval = ρ at e43 ec1 ⊢
  unfold execOp
  rw [hop]
  simp [e43, ec1, go_sem]
theorem SO10.s2 (X : SO10) (ok : SO10Ok X) {Q : Exit → Act → World → Prop} : StepH (opsOf 10 Tryz.f43) SO10.acts SO10.av SO10.ext X.val0 X.Wd X.a0 Q 2 := by
  intro γ listed a w o hF hC hW h1 ho h2
  obtain ⟨hd, hop, hg⟩ := fields2 (x := some 45) (y := Op.load 112 (.tmp 44)) (z := none) (by kernel_rfl) ho
  have e44 : a.eval (.tmp 44) = .pointer (some ⟨X.g, 0, none⟩) := slotH hF ho h2 (j := 1) (d := 44) (by kernel_rfl) (by kernel_rfl) (by rw [ok.sz]; decide)
  have hc0 := rq_at hW.kp ok.f0_
  have hc1 := rq_at hW.kp ok.f1_
  have hc2 := rq_at hW.kp ok.f2_
  have hc3 := rq_at hW.kp ok.f3_
  have hc4 := rq_at hW.kp ok.f4_
  have hc5 := rq_at hW.kp ok.f5_
  refine st_pureH hF hC hW ho h2 (by decide) hd hg ?_
  show _ = Result.ok (Next.value (.agg #[.int .i64 X.f0, .int .i64 X.f1, .int .i64 X.f2, .int .i64 X.f3, .int .i64 X.f4, .int .i64 X.f5])) w
  generalize a.eval = ρ at e44 ⊢
  unfold execOp
  rw [hop]
  simp [e44, hc0, hc1, hc2, hc3, hc4, hc5, go_sem]
theorem SO10.s3 (X : SO10) (ok : SO10Ok X) {Q : Exit → Act → World → Prop} : StepH (opsOf 10 Tryz.f43) SO10.acts SO10.av SO10.ext X.val0 X.Wd X.a0 Q 3 := by
  intro γ listed a w o hF hC hW h1 ho h2
  obtain ⟨hd, hop, hg⟩ := fields2 (x := some 46) (y := Op.move (.tmp 7)) (z := none) (by kernel_rfl) ho
  have e7 : a.eval (.tmp 7) = .slice (some ⟨X.g, 0, none⟩) (X.m + 1) X.c := (hF.eval0 (by kernel_rfl)).trans ok.e7
  refine st_pureH hF hC hW ho h2 (by decide) hd hg ?_
  show _ = Result.ok (Next.value (.slice (some ⟨X.g, 0, none⟩) (X.m + 1) X.c)) w
  generalize a.eval = ρ at e7 ⊢
  unfold execOp
  rw [hop]
  simp [e7, go_sem]
theorem SO10.s4 (X : SO10) (ok : SO10Ok X) {Q : Exit → Act → World → Prop} : StepH (opsOf 10 Tryz.f43) SO10.acts SO10.av SO10.ext X.val0 X.Wd X.a0 Q 4 := by
  intro γ listed a w o hF hC hW h1 ho h2
  obtain ⟨hd, hop, hg⟩ := fields2 (x := some 47) (y := Op.move (.tmp 7)) (z := none) (by kernel_rfl) ho
  have e7 : a.eval (.tmp 7) = .slice (some ⟨X.g, 0, none⟩) (X.m + 1) X.c := (hF.eval0 (by kernel_rfl)).trans ok.e7
  refine st_pureH hF hC hW ho h2 (by decide) hd hg ?_
  show _ = Result.ok (Next.value (.slice (some ⟨X.g, 0, none⟩) (X.m + 1) X.c)) w
  generalize a.eval = ρ at e7 ⊢
  unfold execOp
  rw [hop]
  simp [e7, go_sem]
theorem SO10.s5 (X : SO10) (ok : SO10Ok X) {Q : Exit → Act → World → Prop} : StepH (opsOf 10 Tryz.f43) SO10.acts SO10.av SO10.ext X.val0 X.Wd X.a0 Q 5 := by
  intro γ listed a w o hF hC hW h1 ho h2
  obtain ⟨hd, hop, hg⟩ := fields2 (x := some 48) (y := Op.call { callee := .builtin .len, args := #[(.tmp 47)], argTypes := #[102] }) (z := none) (by kernel_rfl) ho
  have e47 : a.eval (.tmp 47) = .slice (some ⟨X.g, 0, none⟩) (X.m + 1) X.c := slotH hF ho h2 (j := 4) (d := 47) (by kernel_rfl) (by kernel_rfl) (by rw [ok.sz]; decide)
  refine st_pureH hF hC hW ho h2 (by decide) hd hg ?_
  show _ = Result.ok (Next.value (.int .i64 ((X.m + 1 : Nat) : Int))) w
  generalize a.eval = ρ at e47 ⊢
  unfold execOp
  rw [hop]
  simp [e47, go_sem]
theorem SO10.s6 (X : SO10) (ok : SO10Ok X) {Q : Exit → Act → World → Prop} : StepH (opsOf 10 Tryz.f43) SO10.acts SO10.av SO10.ext X.val0 X.Wd X.a0 Q 6 := by
  intro γ listed a w o hF hC hW h1 ho h2
  obtain ⟨hd, hop, hg⟩ := fields2 (x := some 49) (y := Op.binOp .sub 3 (.tmp 48) (.const (.int .i64 1)) 3) (z := none) (by kernel_rfl) ho
  have e48 : a.eval (.tmp 48) = .int .i64 ((X.m + 1 : Nat) : Int) := slotH hF ho h2 (j := 5) (d := 48) (by kernel_rfl) (by kernel_rfl) (by rw [ok.sz]; decide)
  have ec1 : a.eval (.const (.int .i64 1)) = .int .i64 1 := rfl
  refine st_pureH hF hC hW ho h2 (by decide) hd hg ?_
  show _ = Result.ok (Next.value (.int .i64 (X.m : Int))) w
  generalize a.eval = ρ at e48 ec1 ⊢
  unfold execOp
  rw [hop]
  simp [e48, ec1, ok.wr, go_sem]
theorem SO10.s7 (X : SO10) (ok : SO10Ok X) {Q : Exit → Act → World → Prop} : StepH (opsOf 10 Tryz.f43) SO10.acts SO10.av SO10.ext X.val0 X.Wd X.a0 Q 7 := by
  intro γ listed a w o hF hC hW h1 ho h2
  obtain ⟨hd, hop, hg⟩ := fields2 (x := some 50) (y := Op.indexAddr 102 (.tmp 46) (.tmp 49)) (z := none) (by kernel_rfl) ho
  have e46 : a.eval (.tmp 46) = .slice (some ⟨X.g, 0, none⟩) (X.m + 1) X.c := slotH hF ho h2 (j := 3) (d := 46) (by kernel_rfl) (by kernel_rfl) (by rw [ok.sz]; decide)
  have e49 : a.eval (.tmp 49) = .int .i64 (X.m : Int) := slotH hF ho h2 (j := 6) (d := 49) (by kernel_rfl) (by kernel_rfl) (by rw [ok.sz]; decide)
  refine st_pureH hF hC hW ho h2 (by decide) hd hg ?_
  show _ = Result.ok (Next.value (.pointer (some ⟨X.g, X.m * 6, none⟩))) w
  generalize a.eval = ρ at e46 e49 ⊢
  unfold execOp
  rw [hop]
  simp [e46, e49, ok.lt, go_sem]
theorem SO10.s8 (X : SO10) (ok : SO10Ok X) {Q : Exit → Act → World → Prop} : StepH (opsOf 10 Tryz.f43) SO10.acts SO10.av SO10.ext X.val0 X.Wd X.a0 Q 8 := by
  intro γ listed a w o hF hC hW h1 ho h2
  obtain ⟨hd, hop, hg⟩ := fields2 (x := some 51) (y := Op.load 112 (.tmp 50)) (z := none) (by kernel_rfl) ho
  have e50 : a.eval (.tmp 50) = .pointer (some ⟨X.g, X.m * 6, none⟩) := slotH hF ho h2 (j := 7) (d := 50) (by kernel_rfl) (by kernel_rfl) (by rw [ok.sz]; decide)
  have hc0 := rq_at hW.kp ok.l0_
  have hc1 := rq_at hW.kp ok.l1_
  have hc2 := rq_at hW.kp ok.l2_
  have hc3 := rq_at hW.kp ok.l3_
  have hc4 := rq_at hW.kp ok.l4_
  have hc5 := rq_at hW.kp ok.l5_
  refine st_pureH hF hC hW ho h2 (by decide) hd hg ?_
  show _ = Result.ok (Next.value (.agg #[.int .i64 X.l0, .int .i64 X.l1, .int .i64 X.l2, .int .i64 X.l3, .int .i64 X.l4, .int .i64 X.l5])) w
  generalize a.eval = ρ at e50 ⊢
  unfold execOp
  rw [hop]
  simp [e50, hc0, hc1, hc2, hc3, hc4, hc5, go_sem]
theorem SO10.s9 (X : SO10) (ok : SO10Ok X) {Q : Exit → Act → World → Prop} : StepH (opsOf 10 Tryz.f43) SO10.acts SO10.av SO10.ext X.val0 X.Wd X.a0 Q 9 := by
  intro γ listed a w o hF hC hW h1 ho h2
  obtain ⟨hd, hop, hg⟩ := fields2 (x := some 10) (y := Op.alloc 112) (z := none) (by kernel_rfl) ho
  have hu := unl (hF.lt ho) h1
  have hno : upOf listed SO10.acts 2 = false := up_no hC hu rfl [9] (by kernel_rfl) (by decide)
  refine st_actH (k := 0) (ps := []) SO10.nodup rfl (by kernel_rfl) hF hC h1 ho h2 (Or.inr ⟨10, hd, rfl, fun _ => rfl⟩) hg ?_
  intro K hK
  have hr : (execOp a.eval o).run Tryz.prog w = .ok (.value (.pointer (some ⟨w.heap.size, 0, none⟩))) (w.alloc (.cells #[.int .i64 0, .int .i64 0, .int .i64 0, .int .i64 0, .int .i64 0, .int .i64 0] 112)) := by
    unfold execOp
    rw [hop]
    simp [go_sem]
  unfold Oper.wp
  rw [hr]
  exact hK _ _ (hW.alloc0 hno _)
theorem SO10.s10 (X : SO10) (ok : SO10Ok X) {Q : Exit → Act → World → Prop} : StepH (opsOf 10 Tryz.f43) SO10.acts SO10.av SO10.ext X.val0 X.Wd X.a0 Q 10 := by
  intro γ listed a w o hF hC hW h1 ho h2
  obtain ⟨hd, hop, hg⟩ := fields2 (x := some 11) (y := Op.alloc 112) (z := none) (by kernel_rfl) ho
  have hu := unl (hF.lt ho) h1
  have hno : upOf listed SO10.acts 3 = false := up_no hC hu rfl [10] (by kernel_rfl) (by decide)
  refine st_actH (k := 1) (ps := []) SO10.nodup rfl (by kernel_rfl) hF hC h1 ho h2 (Or.inr ⟨11, hd, rfl, fun _ => rfl⟩) hg ?_
  intro K hK
  have hr : (execOp a.eval o).run Tryz.prog w = .ok (.value (.pointer (some ⟨w.heap.size, 0, none⟩))) (w.alloc (.cells #[.int .i64 0, .int .i64 0, .int .i64 0, .int .i64 0, .int .i64 0, .int .i64 0] 112)) := by
    unfold execOp
    rw [hop]
    simp [go_sem]
  unfold Oper.wp
  rw [hr]
  exact hK _ _ (hW.alloc1 hno _)
theorem SO10.s11 (X : SO10) (ok : SO10Ok X) {Q : Exit → Act → World → Prop} : StepH (opsOf 10 Tryz.f43) SO10.acts SO10.av SO10.ext X.val0 X.Wd X.a0 Q 11 := by
  intro γ listed a w o hF hC hW h1 ho h2
  obtain ⟨hd, hop, hg⟩ := fields2 (x := none) (y := Op.store 112 (.tmp 10) (.tmp 45)) (z := none) (by kernel_rfl) ho
  have e10 : a.eval (.tmp 10) = γ 0 := slotH hF ho h2 (j := 9) (d := 10) (by kernel_rfl) (by kernel_rfl) (by rw [ok.sz]; decide)
  have e45 : a.eval (.tmp 45) = .agg #[.int .i64 X.f0, .int .i64 X.f1, .int .i64 X.f2, .int .i64 X.f3, .int .i64 X.f4, .int .i64 X.f5] := slotH hF ho h2 (j := 2) (d := 45) (by kernel_rfl) (by kernel_rfl) (by rw [ok.sz]; decide)
  have hs : upOf listed SO10.acts 0 = true := up_yes hC ho h2 (j := 9) rfl [9] (by kernel_rfl) (by decide)
  have hno : upOf listed SO10.acts 2 = false := up_self rfl (unl (hF.lt ho) h1)
  refine st_actH (k := 2) (ps := []) SO10.nodup rfl (by kernel_rfl) hF hC h1 ho h2 (Or.inl hd) hg ?_
  intro K hK
  have hl := hW.l0 hs
  rw [hno] at hl
  obtain ⟨g, g1, g2, g3, zf, zc⟩ := hl
  rw [g1] at e10
  have z0 : w.cell? ⟨g, 0, none⟩ = some (.int .i64 0) := zc 0 (by decide)
  have z1 : w.cell? ⟨g, 1, none⟩ = some (.int .i64 0) := zc 1 (by decide)
  have z2 : w.cell? ⟨g, 2, none⟩ = some (.int .i64 0) := zc 2 (by decide)
  have z3 : w.cell? ⟨g, 3, none⟩ = some (.int .i64 0) := zc 3 (by decide)
  have z4 : w.cell? ⟨g, 4, none⟩ = some (.int .i64 0) := zc 4 (by decide)
  have z5 : w.cell? ⟨g, 5, none⟩ = some (.int .i64 0) := zc 5 (by decide)
  have hr : (execOp a.eval o).run Tryz.prog w = .ok .skip ((((((w.setCell ⟨g, 0, none⟩ (.int .i64 X.f0)).setCell ⟨g, 1, none⟩ (.int .i64 X.f1)).setCell ⟨g, 2, none⟩ (.int .i64 X.f2)).setCell ⟨g, 3, none⟩ (.int .i64 X.f3)).setCell ⟨g, 4, none⟩ (.int .i64 X.f4)).setCell ⟨g, 5, none⟩ (.int .i64 X.f5)) := by
    generalize a.eval = ρ at e10 e45 ⊢
    unfold execOp
    rw [hop]
    simp [e10, e45, z0, z1, z2, z3, z4, z5, zf, go_sem]
  unfold Oper.wp
  rw [hr]
  exact hK undef _ (hW.store0 hs rfl g1 undef)
theorem SO10.s12 (X : SO10) (ok : SO10Ok X) {Q : Exit → Act → World → Prop} : StepH (opsOf 10 Tryz.f43) SO10.acts SO10.av SO10.ext X.val0 X.Wd X.a0 Q 12 := by
  intro γ listed a w o hF hC hW h1 ho h2
  obtain ⟨hd, hop, hg⟩ := fields2 (x := none) (y := Op.store 112 (.tmp 11) (.tmp 51)) (z := none) (by kernel_rfl) ho
  have e11 : a.eval (.tmp 11) = γ 1 := slotH hF ho h2 (j := 10) (d := 11) (by kernel_rfl) (by kernel_rfl) (by rw [ok.sz]; decide)
  have e51 : a.eval (.tmp 51) = .agg #[.int .i64 X.l0, .int .i64 X.l1, .int .i64 X.l2, .int .i64 X.l3, .int .i64 X.l4, .int .i64 X.l5] := slotH hF ho h2 (j := 8) (d := 51) (by kernel_rfl) (by kernel_rfl) (by rw [ok.sz]; decide)
  have hs : upOf listed SO10.acts 1 = true := up_yes hC ho h2 (j := 10) rfl [10] (by kernel_rfl) (by decide)
  have hno : upOf listed SO10.acts 3 = false := up_self rfl (unl (hF.lt ho) h1)
  refine st_actH (k := 3) (ps := []) SO10.nodup rfl (by kernel_rfl) hF hC h1 ho h2 (Or.inl hd) hg ?_
  intro K hK
  have hl := hW.l1 hs
  rw [hno] at hl
  obtain ⟨g, g1, g2, g3, zf, zc⟩ := hl
  rw [g1] at e11
  have z0 : w.cell? ⟨g, 0, none⟩ = some (.int .i64 0) := zc 0 (by decide)
  have z1 : w.cell? ⟨g, 1, none⟩ = some (.int .i64 0) := zc 1 (by decide)
  have z2 : w.cell? ⟨g, 2, none⟩ = some (.int .i64 0) := zc 2 (by decide)
  have z3 : w.cell? ⟨g, 3, none⟩ = some (.int .i64 0) := zc 3 (by decide)
  have z4 : w.cell? ⟨g, 4, none⟩ = some (.int .i64 0) := zc 4 (by decide)
  have z5 : w.cell? ⟨g, 5, none⟩ = some (.int .i64 0) := zc 5 (by decide)
  have hr : (execOp a.eval o).run Tryz.prog w = .ok .skip ((((((w.setCell ⟨g, 0, none⟩ (.int .i64 X.l0)).setCell ⟨g, 1, none⟩ (.int .i64 X.l1)).setCell ⟨g, 2, none⟩ (.int .i64 X.l2)).setCell ⟨g, 3, none⟩ (.int .i64 X.l3)).setCell ⟨g, 4, none⟩ (.int .i64 X.l4)).setCell ⟨g, 5, none⟩ (.int .i64 X.l5)) := by
    generalize a.eval = ρ at e11 e51 ⊢
    unfold execOp
    rw [hop]
    simp [e11, e51, z0, z1, z2, z3, z4, z5, zf, go_sem]
  unfold Oper.wp
  rw [hr]
  exact hK undef _ (hW.store1 hs rfl g1 undef)
theorem SO10.size : (opsOf 10 Tryz.f43).size = 13 := by kernel_rfl
theorem SO10.steps (X : SO10) (ok : SO10Ok X) {Q : Exit → Act → World → Prop} (i : Nat) (hi : i < (opsOf 10 Tryz.f43).size) : StepH (opsOf 10 Tryz.f43) SO10.acts SO10.av SO10.ext X.val0 X.Wd X.a0 Q i := by
  rw [SO10.size] at hi
  have hc : i = 0 ∨ i = 1 ∨ i = 2 ∨ i = 3 ∨ i = 4 ∨ i = 5 ∨ i = 6 ∨ i = 7 ∨ i = 8 ∨ i = 9 ∨ i = 10 ∨ i = 11 ∨ i = 12 := by omega
  rcases hc with rfl | rfl | rfl | rfl | rfl | rfl | rfl | rfl | rfl | rfl | rfl | rfl | rfl
  · exact SO10.s0 X ok
  · exact SO10.s1 X ok
  · exact SO10.s2 X ok
  · exact SO10.s3 X ok
  · exact SO10.s4 X ok
  · exact SO10.s5 X ok
  · exact SO10.s6 X ok
  · exact SO10.s7 X ok
  · exact SO10.s8 X ok
  · exact SO10.s9 X ok
  · exact SO10.s10 X ok
  · exact SO10.s11 X ok
  · exact SO10.s12 X ok
theorem SO10.puts (X : SO10) (γ : Nat → Value) (a0 : Act) : putsL (valH SO10.av SO10.ext X.val0 γ) (opsOf 10 Tryz.f43).toList a0 = (((((((((((a0.put (some 43) (.slice (some ⟨X.g, 0, none⟩) (X.m + 1) X.c)).put (some 44) (.pointer (some ⟨X.g, 0, none⟩))).put (some 45) (.agg #[.int .i64 X.f0, .int .i64 X.f1, .int .i64 X.f2, .int .i64 X.f3, .int .i64 X.f4, .int .i64 X.f5])).put (some 46) (.slice (some ⟨X.g, 0, none⟩) (X.m + 1) X.c)).put (some 47) (.slice (some ⟨X.g, 0, none⟩) (X.m + 1) X.c)).put (some 48) (.int .i64 ((X.m + 1 : Nat) : Int))).put (some 49) (.int .i64 (X.m : Int))).put (some 50) (.pointer (some ⟨X.g, X.m * 6, none⟩))).put (some 51) (.agg #[.int .i64 X.l0, .int .i64 X.l1, .int .i64 X.l2, .int .i64 X.l3, .int .i64 X.l4, .int .i64 X.l5])).put (some 10) (γ 0)).put (some 11) (γ 1)) := by kernel_rfl
/-- The region, whatever order comes up. -/
theorem SO10.run (X : SO10) (ok : SO10Ok X) {Q : Exit → Act → World → Prop} (w : World) (h0 : Kp X.W w.drew) (hend : ∀ w' g0 g1, Kp X.W w' → X.W.heap.size ≤ g0 → X.W.heap.size ≤ g1 → g0 ≠ g1 → w'.cell? ⟨g0, 0, none⟩ = some (.int .i64 X.f0) → w'.cell? ⟨g0, 1, none⟩ = some (.int .i64 X.f1) → w'.cell? ⟨g0, 2, none⟩ = some (.int .i64 X.f2) → w'.cell? ⟨g0, 3, none⟩ = some (.int .i64 X.f3) → w'.cell? ⟨g0, 4, none⟩ = some (.int .i64 X.f4) → w'.cell? ⟨g0, 5, none⟩ = some (.int .i64 X.f5) → w'.cell? ⟨g1, 0, none⟩ = some (.int .i64 X.l0) → w'.cell? ⟨g1, 1, none⟩ = some (.int .i64 X.l1) → w'.cell? ⟨g1, 2, none⟩ = some (.int .i64 X.l2) → w'.cell? ⟨g1, 3, none⟩ = some (.int .i64 X.l3) → w'.cell? ⟨g1, 4, none⟩ = some (.int .i64 X.l4) → w'.cell? ⟨g1, 5, none⟩ = some (.int .i64 X.l5) → Q .normal (((((((((((X.a0.put (some 43) (.slice (some ⟨X.g, 0, none⟩) (X.m + 1) X.c)).put (some 44) (.pointer (some ⟨X.g, 0, none⟩))).put (some 45) (.agg #[.int .i64 X.f0, .int .i64 X.f1, .int .i64 X.f2, .int .i64 X.f3, .int .i64 X.f4, .int .i64 X.f5])).put (some 46) (.slice (some ⟨X.g, 0, none⟩) (X.m + 1) X.c)).put (some 47) (.slice (some ⟨X.g, 0, none⟩) (X.m + 1) X.c)).put (some 48) (.int .i64 ((X.m + 1 : Nat) : Int))).put (some 49) (.int .i64 (X.m : Int))).put (some 50) (.pointer (some ⟨X.g, X.m * 6, none⟩))).put (some 51) (.agg #[.int .i64 X.l0, .int .i64 X.l1, .int .i64 X.l2, .int .i64 X.l3, .int .i64 X.l4, .int .i64 X.l5])).put (some 10) (.pointer (some ⟨g0, 0, none⟩))).put (some 11) (.pointer (some ⟨g1, 0, none⟩))) w') : (Code.region 10 (opsOf 10 Tryz.f43) true).wp Tryz.prog Q X.a0 w := by
  refine reg_actH (acts := SO10.acts) (av := SO10.av) (ext := SO10.ext) (val0 := X.val0) (Wd := X.Wd) (by kernel_rfl) (by kernel_rfl) (by rw [SO10.size]; decide) (fun i hi => SO10.steps X ok i hi) (fun _ => undef) (TwoWd.start _ _ _ _ _ _ h0) ?_
  intro S γ w' hS h
  rw [SO10.puts]
  obtain ⟨g0, g1, q0, q1, kp, ge0, ge1, gne, qa, qb⟩ := h.fin hS
  rw [q0, q1]
  exact hend w' g0 g1 kp ge0 ge1 gne (qa 0 (by decide)) (qa 1 (by decide)) (qa 2 (by decide)) (qa 3 (by decide)) (qa 4 (by decide)) (qa 5 (by decide)) (qb 0 (by decide)) (qb 1 (by decide)) (qb 2 (by decide)) (qb 3 (by decide)) (qb 4 (by decide)) (qb 5 (by decide))
structure SO11 where
  f0 : Int
  f1 : Int
  f2 : Int
  f3 : Int
  f4 : Int
  f5 : Int
  l0 : Int
  l1 : Int
  l2 : Int
  l3 : Int
  l4 : Int
  l5 : Int
  g0 : Nat
  g1 : Nat
  h : Int
  fn : FuncId
  sv : Value
  P1 : World → Value → Prop
  P2 : World → Value → Value → Prop
  R : World → Value → Prop
  W : World
  a0 : Act
structure SO11Ok (X : SO11) : Prop where
  f0_ : X.W.cell? ⟨X.g0, 0, none⟩ = some (.int .i64 X.f0)
  f1_ : X.W.cell? ⟨X.g0, 1, none⟩ = some (.int .i64 X.f1)
  f2_ : X.W.cell? ⟨X.g0, 2, none⟩ = some (.int .i64 X.f2)
  f3_ : X.W.cell? ⟨X.g0, 3, none⟩ = some (.int .i64 X.f3)
  f4_ : X.W.cell? ⟨X.g0, 4, none⟩ = some (.int .i64 X.f4)
  f5_ : X.W.cell? ⟨X.g0, 5, none⟩ = some (.int .i64 X.f5)
  l0_ : X.W.cell? ⟨X.g1, 0, none⟩ = some (.int .i64 X.l0)
  l1_ : X.W.cell? ⟨X.g1, 1, none⟩ = some (.int .i64 X.l1)
  l2_ : X.W.cell? ⟨X.g1, 2, none⟩ = some (.int .i64 X.l2)
  l3_ : X.W.cell? ⟨X.g1, 3, none⟩ = some (.int .i64 X.l3)
  l4_ : X.W.cell? ⟨X.g1, 4, none⟩ = some (.int .i64 X.l4)
  l5_ : X.W.cell? ⟨X.g1, 5, none⟩ = some (.int .i64 X.l5)
  wf4 : wid X.f4
  wf5 : wid X.f5
  wl4 : wid X.l4
  fx : ∀ args w, Sem.run Tryz.prog (callFunc X.fn args) w = .ok (.enter X.fn args) w
  s1 : ∃ a n c, X.sv = .slice a n c
  h1 : ∀ w, Kp X.W w → Calls Tryz.prog X.fn #[.agg #[.int .i64 X.f0, .int .i64 X.f1, .int .i64 X.f4, .int .i64 X.f5, .int .i64 (-X.f5), .int .i64 X.f4, .int .i64 X.h]] w fun e w' => ∃ v, e = .returned v ∧ X.P1 w' v
  n1 : ∀ w v, X.P1 w v → Nw X.W w ∧ ∃ a n c, v = .slice a n c
  k1 : ∀ w w' v, X.P1 w v → Kp w w' → X.P1 w' v
  h2 : ∀ w v, X.P1 w v → Calls Tryz.prog X.fn #[.agg #[.int .i64 X.l2, .int .i64 X.l3, .int .i64 X.l4, .int .i64 X.l5, .int .i64 X.l5, .int .i64 (-X.l4), .int .i64 X.h]] w fun e w' => ∃ v', e = .returned v' ∧ X.P2 w' v v'
  n2 : ∀ w v v', X.P2 w v v' → (∃ a n c, v = .slice a n c) ∧ ∃ a n c, v' = .slice a n c
  h3 : ∀ w v v', X.P2 w v v' → Calls Tryz.prog 71 #[.slice (some ⟨w.heap.size, 0, none⟩) 3 3] (w.alloc (.cells #[X.sv, v, v'] 29)) fun e w' => ∃ u, e = .returned u ∧ X.R w' u
  e6 : X.a0.eval (.tmp 6) = .int .i64 (X.h)
  e8 : X.a0.eval (.tmp 8) = X.sv
  e9 : X.a0.eval (.tmp 9) = .func (.func X.fn) #[] #[]
  e10 : X.a0.eval (.tmp 10) = .pointer (some ⟨X.g0, 0, none⟩)
  e11 : X.a0.eval (.tmp 11) = .pointer (some ⟨X.g1, 0, none⟩)
  sz : X.a0.tmps.size = 77
def SO11.val0 (X : SO11) : Nat → Value
  | 52 => X.sv
  | 53 => .func (.func X.fn) #[] #[]
  | 54 => .pointer (some ⟨X.g0, 0, none⟩)
  | 55 => .agg #[.int .i64 X.f0, .int .i64 X.f1]
  | 56 => .pointer (some ⟨X.g0, 4, none⟩)
  | 57 => .agg #[.int .i64 X.f4, .int .i64 X.f5]
  | 58 => .agg #[.int .i64 0, .int .i64 0]
  | 59 => .agg #[.int .i64 X.f0, .int .i64 X.f1, .int .i64 X.f2, .int .i64 X.f3, .int .i64 X.f4, .int .i64 X.f5]
  | 62 => .int .i64 (X.h)
  | 65 => .func (.func X.fn) #[] #[]
  | 66 => .pointer (some ⟨X.g1, 2, none⟩)
  | 67 => .agg #[.int .i64 X.l2, .int .i64 X.l3]
  | 68 => .pointer (some ⟨X.g1, 4, none⟩)
  | 69 => .agg #[.int .i64 X.l4, .int .i64 X.l5]
  | 70 => .agg #[.int .i64 X.l0, .int .i64 X.l1, .int .i64 X.l2, .int .i64 X.l3, .int .i64 X.l4, .int .i64 X.l5]
  | 72 => .int .i64 (X.h)
  | _ => undef
def SO11.av : Nat → Option Nat
  | 60 => some 0
  | 61 => some 1
  | 63 => some 2
  | 64 => some 3
  | 71 => some 4
  | 73 => some 5
  | 74 => some 6
  | 75 => some 7
  | 76 => some 8
  | 4 => some 9
  | _ => none
def SO11.acts : List Nat := [8, 9, 11, 12, 19, 21, 22, 23, 24, 25]
/-- The world, by how many of the acting ones have come up. -/
def SO11.Wd (X : SO11) : Nat → (Nat → Value) → World → Prop
  | 0, _, w => Kp X.W w
  | 1, γ, w => γ 0 = .agg #[.int .i64 X.f5, .int .i64 (-X.f4)] ∧ Kp X.W w
  | 2, γ, w => γ 1 = .agg #[.int .i64 (-X.f5), .int .i64 X.f4] ∧ Kp X.W w
  | 3, γ, w => γ 2 = .agg #[.int .i64 X.f0, .int .i64 X.f1, .int .i64 X.f4, .int .i64 X.f5, .int .i64 (-X.f5), .int .i64 X.f4, .int .i64 X.h] ∧ Kp X.W w
  | 4, γ, w => X.P1 w (γ 3)
  | 5, γ, w => γ 4 = .agg #[.int .i64 X.l5, .int .i64 (-X.l4)] ∧ X.P1 w (γ 3)
  | 6, γ, w => γ 5 = .agg #[.int .i64 X.l2, .int .i64 X.l3, .int .i64 X.l4, .int .i64 X.l5, .int .i64 X.l5, .int .i64 (-X.l4), .int .i64 X.h] ∧ X.P1 w (γ 3)
  | 7, γ, w => X.P2 w (γ 3) (γ 6)
  | 8, γ, w => ∃ w1, X.P2 w1 (γ 3) (γ 6) ∧ γ 7 = .slice (some ⟨w1.heap.size, 0, none⟩) 3 3 ∧ w = w1.alloc (.cells #[X.sv, γ 3, γ 6] 29)
  | 9, γ, w => X.R w (γ 8)
  | _, γ, w => X.R w (γ 9)
theorem SO11.nw {X : SO11} (ok : ∀ w v, X.P1 w v → Nw X.W w) : ∀ {n : Nat} {γ : Nat → Value} {w : World}, n ≤ 6 → X.Wd n γ w → Nw X.W w
  | 0, _, _, _, h => Kp.nw h
  | 1, _, _, _, ⟨_, h⟩ => Kp.nw h
  | 2, _, _, _, ⟨_, h⟩ => Kp.nw h
  | 3, _, _, _, ⟨_, h⟩ => Kp.nw h
  | 4, _, _, _, h => ok _ _ h
  | 5, _, _, _, ⟨_, h⟩ => ok _ _ h
  | 6, _, _, _, ⟨_, h⟩ => ok _ _ h
  | _ + 7, _, _, h, _ => absurd h (by omega)
theorem SO11.chain : chainG (opsOf 11 Tryz.f43) SO11.acts = true := by kernel_rfl
theorem SO11.nodup : SO11.acts.Nodup := by decide
theorem SO11.inj {listed : Array Bool} {i k : Nat} (h : (List.range (opsOf 11 Tryz.f43).size).all (fun j => decide (j = i) || !(match dstOf (opsOf 11 Tryz.f43) j with | some d => decide (SO11.av d = some k) | none => false)) = true) (hu : listed.getD i false = false) : ∀ d, got (opsOf 11 Tryz.f43) listed d → SO11.av d ≠ some k := by
  rintro d ⟨j, h1, h2⟩ h3
  have hlt : j < (opsOf 11 Tryz.f43).size := by
    rcases Nat.lt_or_ge j (opsOf 11 Tryz.f43).size with h4 | h4
    · exact h4
    · unfold dstOf at h2; rw [Array.getElem?_eq_none h4] at h2; cases h2
  have h5 := List.all_eq_true.1 h j (List.mem_range.2 hlt)
  rw [h2] at h5
  simp only [h3, decide_true, Bool.not_true, Bool.or_false, decide_eq_true_eq] at h5
  subst h5
  rw [hu] at h1
  cases h1
theorem SO11.s0 (X : SO11) (ok : SO11Ok X) {Q : Exit → Act → World → Prop} : StepG (opsOf 11 Tryz.f43) SO11.acts SO11.av X.val0 X.Wd X.a0 Q 0 := by
  intro γ listed a w o hF hC hW h1 ho h2
  obtain ⟨hd, hop, hg⟩ := fields2 (x := some 52) (y := Op.move (.tmp 8)) (z := none) (by kernel_rfl) ho
  have e8 : a.eval (.tmp 8) = X.sv := (hF.eval0 (by kernel_rfl)).trans ok.e8
  refine st_pureG hF hC hW ho h2 (by decide) hd hg rfl ?_
  show _ = Result.ok (Next.value (X.sv)) w
  generalize a.eval = ρ at e8 ⊢
  unfold execOp
  rw [hop]
  simp [e8, go_sem]
theorem SO11.s1 (X : SO11) (ok : SO11Ok X) {Q : Exit → Act → World → Prop} : StepG (opsOf 11 Tryz.f43) SO11.acts SO11.av X.val0 X.Wd X.a0 Q 1 := by
  intro γ listed a w o hF hC hW h1 ho h2
  obtain ⟨hd, hop, hg⟩ := fields2 (x := some 53) (y := Op.move (.tmp 9)) (z := none) (by kernel_rfl) ho
  have e9 : a.eval (.tmp 9) = .func (.func X.fn) #[] #[] := (hF.eval0 (by kernel_rfl)).trans ok.e9
  refine st_pureG hF hC hW ho h2 (by decide) hd hg rfl ?_
  show _ = Result.ok (Next.value (.func (.func X.fn) #[] #[])) w
  generalize a.eval = ρ at e9 ⊢
  unfold execOp
  rw [hop]
  simp [e9, go_sem]
theorem SO11.s2 (X : SO11) (ok : SO11Ok X) {Q : Exit → Act → World → Prop} : StepG (opsOf 11 Tryz.f43) SO11.acts SO11.av X.val0 X.Wd X.a0 Q 2 := by
  intro γ listed a w o hF hC hW h1 ho h2
  obtain ⟨hd, hop, hg⟩ := fields2 (x := some 54) (y := Op.fieldAddr 112 (.tmp 10) 0) (z := none) (by kernel_rfl) ho
  have e10 : a.eval (.tmp 10) = .pointer (some ⟨X.g0, 0, none⟩) := (hF.eval0 (by kernel_rfl)).trans ok.e10
  refine st_pureG hF hC hW ho h2 (by decide) hd hg rfl ?_
  show _ = Result.ok (Next.value (.pointer (some ⟨X.g0, 0, none⟩))) w
  generalize a.eval = ρ at e10 ⊢
  unfold execOp
  rw [hop]
  simp [e10, go_sem]
theorem SO11.s3 (X : SO11) (ok : SO11Ok X) {Q : Exit → Act → World → Prop} : StepG (opsOf 11 Tryz.f43) SO11.acts SO11.av X.val0 X.Wd X.a0 Q 3 := by
  intro γ listed a w o hF hC hW h1 ho h2
  obtain ⟨hd, hop, hg⟩ := fields2 (x := some 55) (y := Op.load 34 (.tmp 54)) (z := none) (by kernel_rfl) ho
  have e54 : a.eval (.tmp 54) = .pointer (some ⟨X.g0, 0, none⟩) := slotG hF ho h2 (j := 2) (d := 54) (by kernel_rfl) (by kernel_rfl) (by rw [ok.sz]; decide)
  have hph := phase_leG (acts := SO11.acts) (m := 2) (x := 11) hC (unl (hF.lt ho) h1) rfl [3] (by kernel_rfl) (by decide)
  have hWW := hW
  generalize phase listed SO11.acts = n at hph hWW
  have hk : Nw X.W w := SO11.nw (fun w v h => (ok.n1 w v h).1) (by omega) hWW
  have hc0 := ((bcell hk).1 _ _ (World.block_lt_of_cell? X.W ⟨X.g0, 0, none⟩ ok.f0_)).trans ok.f0_
  have hc1 := ((bcell hk).1 _ _ (World.block_lt_of_cell? X.W ⟨X.g0, 1, none⟩ ok.f1_)).trans ok.f1_
  refine st_pureG hF hC hW ho h2 (by decide) hd hg rfl ?_
  show _ = Result.ok (Next.value (.agg #[.int .i64 X.f0, .int .i64 X.f1])) w
  generalize a.eval = ρ at e54 ⊢
  unfold execOp
  rw [hop]
  simp [e54, hc0, hc1, go_sem]
theorem SO11.s4 (X : SO11) (ok : SO11Ok X) {Q : Exit → Act → World → Prop} : StepG (opsOf 11 Tryz.f43) SO11.acts SO11.av X.val0 X.Wd X.a0 Q 4 := by
  intro γ listed a w o hF hC hW h1 ho h2
  obtain ⟨hd, hop, hg⟩ := fields2 (x := some 56) (y := Op.fieldAddr 112 (.tmp 10) 2) (z := none) (by kernel_rfl) ho
  have e10 : a.eval (.tmp 10) = .pointer (some ⟨X.g0, 0, none⟩) := (hF.eval0 (by kernel_rfl)).trans ok.e10
  refine st_pureG hF hC hW ho h2 (by decide) hd hg rfl ?_
  show _ = Result.ok (Next.value (.pointer (some ⟨X.g0, 4, none⟩))) w
  generalize a.eval = ρ at e10 ⊢
  unfold execOp
  rw [hop]
  simp [e10, go_sem]
theorem SO11.s5 (X : SO11) (ok : SO11Ok X) {Q : Exit → Act → World → Prop} : StepG (opsOf 11 Tryz.f43) SO11.acts SO11.av X.val0 X.Wd X.a0 Q 5 := by
  intro γ listed a w o hF hC hW h1 ho h2
  obtain ⟨hd, hop, hg⟩ := fields2 (x := some 57) (y := Op.load 34 (.tmp 56)) (z := none) (by kernel_rfl) ho
  have e56 : a.eval (.tmp 56) = .pointer (some ⟨X.g0, 4, none⟩) := slotG hF ho h2 (j := 4) (d := 56) (by kernel_rfl) (by kernel_rfl) (by rw [ok.sz]; decide)
  have hph := phase_leG (acts := SO11.acts) (m := 2) (x := 11) hC (unl (hF.lt ho) h1) rfl [5] (by kernel_rfl) (by decide)
  have hWW := hW
  generalize phase listed SO11.acts = n at hph hWW
  have hk : Nw X.W w := SO11.nw (fun w v h => (ok.n1 w v h).1) (by omega) hWW
  have hc0 := ((bcell hk).1 _ _ (World.block_lt_of_cell? X.W ⟨X.g0, 4, none⟩ ok.f4_)).trans ok.f4_
  have hc1 := ((bcell hk).1 _ _ (World.block_lt_of_cell? X.W ⟨X.g0, 5, none⟩ ok.f5_)).trans ok.f5_
  refine st_pureG hF hC hW ho h2 (by decide) hd hg rfl ?_
  show _ = Result.ok (Next.value (.agg #[.int .i64 X.f4, .int .i64 X.f5])) w
  generalize a.eval = ρ at e56 ⊢
  unfold execOp
  rw [hop]
  simp [e56, hc0, hc1, go_sem]
theorem SO11.s6 (X : SO11) (ok : SO11Ok X) {Q : Exit → Act → World → Prop} : StepG (opsOf 11 Tryz.f43) SO11.acts SO11.av X.val0 X.Wd X.a0 Q 6 := by
  intro γ listed a w o hF hC hW h1 ho h2
  obtain ⟨hd, hop, hg⟩ := fields2 (x := some 58) (y := Op.build 34 #[]) (z := none) (by kernel_rfl) ho
  refine st_pureG hF hC hW ho h2 (by decide) hd hg rfl ?_
  show _ = Result.ok (Next.value (.agg #[.int .i64 0, .int .i64 0])) w
  generalize a.eval = ρ at  ⊢
  unfold execOp
  rw [hop]
  simp [go_sem]
theorem SO11.s7 (X : SO11) (ok : SO11Ok X) {Q : Exit → Act → World → Prop} : StepG (opsOf 11 Tryz.f43) SO11.acts SO11.av X.val0 X.Wd X.a0 Q 7 := by
  intro γ listed a w o hF hC hW h1 ho h2
  obtain ⟨hd, hop, hg⟩ := fields2 (x := some 59) (y := Op.load 112 (.tmp 10)) (z := none) (by kernel_rfl) ho
  have e10 : a.eval (.tmp 10) = .pointer (some ⟨X.g0, 0, none⟩) := (hF.eval0 (by kernel_rfl)).trans ok.e10
  have hph := phase_leG (acts := SO11.acts) (m := 0) (x := 8) hC (unl (hF.lt ho) h1) rfl [7] (by kernel_rfl) (by decide)
  have hWW := hW
  generalize phase listed SO11.acts = n at hph hWW
  have hk : Nw X.W w := SO11.nw (fun w v h => (ok.n1 w v h).1) (by omega) hWW
  have hc0 := ((bcell hk).1 _ _ (World.block_lt_of_cell? X.W ⟨X.g0, 0, none⟩ ok.f0_)).trans ok.f0_
  have hc1 := ((bcell hk).1 _ _ (World.block_lt_of_cell? X.W ⟨X.g0, 1, none⟩ ok.f1_)).trans ok.f1_
  have hc2 := ((bcell hk).1 _ _ (World.block_lt_of_cell? X.W ⟨X.g0, 2, none⟩ ok.f2_)).trans ok.f2_
  have hc3 := ((bcell hk).1 _ _ (World.block_lt_of_cell? X.W ⟨X.g0, 3, none⟩ ok.f3_)).trans ok.f3_
  have hc4 := ((bcell hk).1 _ _ (World.block_lt_of_cell? X.W ⟨X.g0, 4, none⟩ ok.f4_)).trans ok.f4_
  have hc5 := ((bcell hk).1 _ _ (World.block_lt_of_cell? X.W ⟨X.g0, 5, none⟩ ok.f5_)).trans ok.f5_
  refine st_pureG hF hC hW ho h2 (by decide) hd hg rfl ?_
  show _ = Result.ok (Next.value (.agg #[.int .i64 X.f0, .int .i64 X.f1, .int .i64 X.f2, .int .i64 X.f3, .int .i64 X.f4, .int .i64 X.f5])) w
  generalize a.eval = ρ at e10 ⊢
  unfold execOp
  rw [hop]
  simp [e10, hc0, hc1, hc2, hc3, hc4, hc5, go_sem]
theorem SO11.s8 (X : SO11) (ok : SO11Ok X) {Q : Exit → Act → World → Prop} : StepG (opsOf 11 Tryz.f43) SO11.acts SO11.av X.val0 X.Wd X.a0 Q 8 := by
  intro γ listed a w o hF hC hW h1 ho h2
  obtain ⟨hd, hop, hg⟩ := fields2 (x := some 60) (y := Op.call { callee := .value (.func 77), args := #[(.tmp 59)], argTypes := #[112] }) (z := none) (by kernel_rfl) ho
  have e59 : a.eval (.tmp 59) = .agg #[.int .i64 X.f0, .int .i64 X.f1, .int .i64 X.f2, .int .i64 X.f3, .int .i64 X.f4, .int .i64 X.f5] := slotG hF ho h2 (j := 7) (d := 59) (by kernel_rfl) (by kernel_rfl) (by rw [ok.sz]; decide)
  have ef : a.eval (.func 77) = .func (.func 77) #[] #[] := rfl
  have hu := unl (hF.lt ho) h1
  refine st_actG (k := 0) SO11.chain SO11.nodup rfl hF hC hW h1 ho h2 (Or.inr ⟨60, hd, rfl⟩) (SO11.inj (by kernel_rfl) hu) hg ?_
  intro hW0 K hK
  have hr : (execOp a.eval o).run Tryz.prog w = .ok (.enter 77 #[.agg #[.int .i64 X.f0, .int .i64 X.f1, .int .i64 X.f2, .int .i64 X.f3, .int .i64 X.f4, .int .i64 X.f5]]) w := by
    generalize a.eval = ρ at e59 ef ⊢
    unfold execOp
    rw [hop]
    simp [e59, ef, go_sem]
  unfold Oper.wp
  rw [hr]
  refine Calls.mono (ionward w _ _ _ _ _ _ ok.wf4) ?_
  rintro e w' ⟨rfl, h⟩
  exact hK _ _ ⟨rfl, Kp.trans hW0 h⟩
theorem SO11.s9 (X : SO11) (ok : SO11Ok X) {Q : Exit → Act → World → Prop} : StepG (opsOf 11 Tryz.f43) SO11.acts SO11.av X.val0 X.Wd X.a0 Q 9 := by
  intro γ listed a w o hF hC hW h1 ho h2
  obtain ⟨hd, hop, hg⟩ := fields2 (x := some 61) (y := Op.call { callee := .value (.func 76), args := #[(.tmp 58), (.tmp 60)], argTypes := #[34, 34] }) (z := none) (by kernel_rfl) ho
  have e58 : a.eval (.tmp 58) = .agg #[.int .i64 0, .int .i64 0] := slotG hF ho h2 (j := 6) (d := 58) (by kernel_rfl) (by kernel_rfl) (by rw [ok.sz]; decide)
  have e60 : a.eval (.tmp 60) = γ 0 := slotG hF ho h2 (j := 8) (d := 60) (by kernel_rfl) (by kernel_rfl) (by rw [ok.sz]; decide)
  have ef : a.eval (.func 76) = .func (.func 76) #[] #[] := rfl
  have hu := unl (hF.lt ho) h1
  refine st_actG (k := 1) SO11.chain SO11.nodup rfl hF hC hW h1 ho h2 (Or.inr ⟨61, hd, rfl⟩) (SO11.inj (by kernel_rfl) hu) hg ?_
  intro hW0 K hK
  obtain ⟨g0, hk⟩ := hW0
  rw [g0] at e60
  have hr : (execOp a.eval o).run Tryz.prog w = .ok (.enter 76 #[.agg #[.int .i64 0, .int .i64 0], .agg #[.int .i64 X.f5, .int .i64 (-X.f4)]]) w := by
    generalize a.eval = ρ at e58 e60 ef ⊢
    unfold execOp
    rw [hop]
    simp [e58, e60, ef, go_sem]
  unfold Oper.wp
  rw [hr]
  have w5 := ok.wf5
  have w4 := ok.wf4
  refine Calls.mono (imin2 w _ _ _ _ (by unfold wid; omega) (by unfold wid; omega) w5 (by unfold wid at w4 ⊢; omega)) ?_
  rintro e w' ⟨rfl, h⟩
  exact hK _ _ ⟨by rw [Int.zero_sub, Int.zero_sub, Int.neg_neg]; rfl, Kp.trans hk h⟩
theorem SO11.s10 (X : SO11) (ok : SO11Ok X) {Q : Exit → Act → World → Prop} : StepG (opsOf 11 Tryz.f43) SO11.acts SO11.av X.val0 X.Wd X.a0 Q 10 := by
  intro γ listed a w o hF hC hW h1 ho h2
  obtain ⟨hd, hop, hg⟩ := fields2 (x := some 62) (y := Op.move (.tmp 6)) (z := none) (by kernel_rfl) ho
  have e6 : a.eval (.tmp 6) = .int .i64 (X.h) := (hF.eval0 (by kernel_rfl)).trans ok.e6
  refine st_pureG hF hC hW ho h2 (by decide) hd hg rfl ?_
  show _ = Result.ok (Next.value (.int .i64 (X.h))) w
  generalize a.eval = ρ at e6 ⊢
  unfold execOp
  rw [hop]
  simp [e6, go_sem]
theorem SO11.s11 (X : SO11) (ok : SO11Ok X) {Q : Exit → Act → World → Prop} : StepG (opsOf 11 Tryz.f43) SO11.acts SO11.av X.val0 X.Wd X.a0 Q 11 := by
  intro γ listed a w o hF hC hW h1 ho h2
  obtain ⟨hd, hop, hg⟩ := fields2 (x := some 63) (y := Op.build 115 #[(0, (.tmp 55)), (1, (.tmp 57)), (2, (.tmp 61)), (3, (.tmp 62))]) (z := none) (by kernel_rfl) ho
  have e55 : a.eval (.tmp 55) = .agg #[.int .i64 X.f0, .int .i64 X.f1] := slotG hF ho h2 (j := 3) (d := 55) (by kernel_rfl) (by kernel_rfl) (by rw [ok.sz]; decide)
  have e57 : a.eval (.tmp 57) = .agg #[.int .i64 X.f4, .int .i64 X.f5] := slotG hF ho h2 (j := 5) (d := 57) (by kernel_rfl) (by kernel_rfl) (by rw [ok.sz]; decide)
  have e61 : a.eval (.tmp 61) = γ 1 := slotG hF ho h2 (j := 9) (d := 61) (by kernel_rfl) (by kernel_rfl) (by rw [ok.sz]; decide)
  have e62 : a.eval (.tmp 62) = .int .i64 (X.h) := slotG hF ho h2 (j := 10) (d := 62) (by kernel_rfl) (by kernel_rfl) (by rw [ok.sz]; decide)
  have hu := unl (hF.lt ho) h1
  refine st_actG (k := 2) SO11.chain SO11.nodup rfl hF hC hW h1 ho h2 (Or.inr ⟨63, hd, rfl⟩) (SO11.inj (by kernel_rfl) hu) hg ?_
  intro hW0 K hK
  obtain ⟨g1, hk⟩ := hW0
  rw [g1] at e61
  have hr : (execOp a.eval o).run Tryz.prog w = .ok (.value (.agg #[.int .i64 X.f0, .int .i64 X.f1, .int .i64 X.f4, .int .i64 X.f5, .int .i64 (-X.f5), .int .i64 X.f4, .int .i64 X.h])) w := by
    generalize a.eval = ρ at e55 e57 e61 e62 ⊢
    unfold execOp
    rw [hop]
    simp [e55, e57, e61, e62, go_sem]
  unfold Oper.wp
  rw [hr]
  exact hK _ _ ⟨rfl, hk⟩
theorem SO11.s12 (X : SO11) (ok : SO11Ok X) {Q : Exit → Act → World → Prop} : StepG (opsOf 11 Tryz.f43) SO11.acts SO11.av X.val0 X.Wd X.a0 Q 12 := by
  intro γ listed a w o hF hC hW h1 ho h2
  obtain ⟨hd, hop, hg⟩ := fields2 (x := some 64) (y := Op.call { callee := .value (.tmp 53), args := #[(.tmp 63)], argTypes := #[115] }) (z := none) (by kernel_rfl) ho
  have e53 : a.eval (.tmp 53) = .func (.func X.fn) #[] #[] := slotG hF ho h2 (j := 1) (d := 53) (by kernel_rfl) (by kernel_rfl) (by rw [ok.sz]; decide)
  have e63 : a.eval (.tmp 63) = γ 2 := slotG hF ho h2 (j := 11) (d := 63) (by kernel_rfl) (by kernel_rfl) (by rw [ok.sz]; decide)
  have hu := unl (hF.lt ho) h1
  refine st_actG (k := 3) SO11.chain SO11.nodup rfl hF hC hW h1 ho h2 (Or.inr ⟨64, hd, rfl⟩) (SO11.inj (by kernel_rfl) hu) hg ?_
  intro hW0 K hK
  obtain ⟨g1, hk⟩ := hW0
  rw [g1] at e63
  have hr : (execOp a.eval o).run Tryz.prog w = .ok (.enter X.fn #[.agg #[.int .i64 X.f0, .int .i64 X.f1, .int .i64 X.f4, .int .i64 X.f5, .int .i64 (-X.f5), .int .i64 X.f4, .int .i64 X.h]]) w := by
    have fx := ok.fx
    generalize a.eval = ρ at e53 e63 ⊢
    unfold execOp
    rw [hop]
    simp [e53, e63, fx, go_sem]
  unfold Oper.wp
  rw [hr]
  refine Calls.mono (ok.h1 w hk) ?_
  rintro e w' ⟨v, rfl, h⟩
  exact hK _ _ h
theorem SO11.s13 (X : SO11) (ok : SO11Ok X) {Q : Exit → Act → World → Prop} : StepG (opsOf 11 Tryz.f43) SO11.acts SO11.av X.val0 X.Wd X.a0 Q 13 := by
  intro γ listed a w o hF hC hW h1 ho h2
  obtain ⟨hd, hop, hg⟩ := fields2 (x := some 65) (y := Op.move (.tmp 9)) (z := none) (by kernel_rfl) ho
  have e9 : a.eval (.tmp 9) = .func (.func X.fn) #[] #[] := (hF.eval0 (by kernel_rfl)).trans ok.e9
  refine st_pureG hF hC hW ho h2 (by decide) hd hg rfl ?_
  show _ = Result.ok (Next.value (.func (.func X.fn) #[] #[])) w
  generalize a.eval = ρ at e9 ⊢
  unfold execOp
  rw [hop]
  simp [e9, go_sem]
theorem SO11.s14 (X : SO11) (ok : SO11Ok X) {Q : Exit → Act → World → Prop} : StepG (opsOf 11 Tryz.f43) SO11.acts SO11.av X.val0 X.Wd X.a0 Q 14 := by
  intro γ listed a w o hF hC hW h1 ho h2
  obtain ⟨hd, hop, hg⟩ := fields2 (x := some 66) (y := Op.fieldAddr 112 (.tmp 11) 1) (z := none) (by kernel_rfl) ho
  have e11 : a.eval (.tmp 11) = .pointer (some ⟨X.g1, 0, none⟩) := (hF.eval0 (by kernel_rfl)).trans ok.e11
  refine st_pureG hF hC hW ho h2 (by decide) hd hg rfl ?_
  show _ = Result.ok (Next.value (.pointer (some ⟨X.g1, 2, none⟩))) w
  generalize a.eval = ρ at e11 ⊢
  unfold execOp
  rw [hop]
  simp [e11, go_sem]
theorem SO11.s15 (X : SO11) (ok : SO11Ok X) {Q : Exit → Act → World → Prop} : StepG (opsOf 11 Tryz.f43) SO11.acts SO11.av X.val0 X.Wd X.a0 Q 15 := by
  intro γ listed a w o hF hC hW h1 ho h2
  obtain ⟨hd, hop, hg⟩ := fields2 (x := some 67) (y := Op.load 34 (.tmp 66)) (z := none) (by kernel_rfl) ho
  have e66 : a.eval (.tmp 66) = .pointer (some ⟨X.g1, 2, none⟩) := slotG hF ho h2 (j := 14) (d := 66) (by kernel_rfl) (by kernel_rfl) (by rw [ok.sz]; decide)
  have hph := phase_leG (acts := SO11.acts) (m := 5) (x := 21) hC (unl (hF.lt ho) h1) rfl [15] (by kernel_rfl) (by decide)
  have hWW := hW
  generalize phase listed SO11.acts = n at hph hWW
  have hk : Nw X.W w := SO11.nw (fun w v h => (ok.n1 w v h).1) (by omega) hWW
  have hc0 := ((bcell hk).1 _ _ (World.block_lt_of_cell? X.W ⟨X.g1, 2, none⟩ ok.l2_)).trans ok.l2_
  have hc1 := ((bcell hk).1 _ _ (World.block_lt_of_cell? X.W ⟨X.g1, 3, none⟩ ok.l3_)).trans ok.l3_
  refine st_pureG hF hC hW ho h2 (by decide) hd hg rfl ?_
  show _ = Result.ok (Next.value (.agg #[.int .i64 X.l2, .int .i64 X.l3])) w
  generalize a.eval = ρ at e66 ⊢
  unfold execOp
  rw [hop]
  simp [e66, hc0, hc1, go_sem]
theorem SO11.s16 (X : SO11) (ok : SO11Ok X) {Q : Exit → Act → World → Prop} : StepG (opsOf 11 Tryz.f43) SO11.acts SO11.av X.val0 X.Wd X.a0 Q 16 := by
  intro γ listed a w o hF hC hW h1 ho h2
  obtain ⟨hd, hop, hg⟩ := fields2 (x := some 68) (y := Op.fieldAddr 112 (.tmp 11) 2) (z := none) (by kernel_rfl) ho
  have e11 : a.eval (.tmp 11) = .pointer (some ⟨X.g1, 0, none⟩) := (hF.eval0 (by kernel_rfl)).trans ok.e11
  refine st_pureG hF hC hW ho h2 (by decide) hd hg rfl ?_
  show _ = Result.ok (Next.value (.pointer (some ⟨X.g1, 4, none⟩))) w
  generalize a.eval = ρ at e11 ⊢
  unfold execOp
  rw [hop]
  simp [e11, go_sem]
theorem SO11.s17 (X : SO11) (ok : SO11Ok X) {Q : Exit → Act → World → Prop} : StepG (opsOf 11 Tryz.f43) SO11.acts SO11.av X.val0 X.Wd X.a0 Q 17 := by
  intro γ listed a w o hF hC hW h1 ho h2
  obtain ⟨hd, hop, hg⟩ := fields2 (x := some 69) (y := Op.load 34 (.tmp 68)) (z := none) (by kernel_rfl) ho
  have e68 : a.eval (.tmp 68) = .pointer (some ⟨X.g1, 4, none⟩) := slotG hF ho h2 (j := 16) (d := 68) (by kernel_rfl) (by kernel_rfl) (by rw [ok.sz]; decide)
  have hph := phase_leG (acts := SO11.acts) (m := 5) (x := 21) hC (unl (hF.lt ho) h1) rfl [17] (by kernel_rfl) (by decide)
  have hWW := hW
  generalize phase listed SO11.acts = n at hph hWW
  have hk : Nw X.W w := SO11.nw (fun w v h => (ok.n1 w v h).1) (by omega) hWW
  have hc0 := ((bcell hk).1 _ _ (World.block_lt_of_cell? X.W ⟨X.g1, 4, none⟩ ok.l4_)).trans ok.l4_
  have hc1 := ((bcell hk).1 _ _ (World.block_lt_of_cell? X.W ⟨X.g1, 5, none⟩ ok.l5_)).trans ok.l5_
  refine st_pureG hF hC hW ho h2 (by decide) hd hg rfl ?_
  show _ = Result.ok (Next.value (.agg #[.int .i64 X.l4, .int .i64 X.l5])) w
  generalize a.eval = ρ at e68 ⊢
  unfold execOp
  rw [hop]
  simp [e68, hc0, hc1, go_sem]
theorem SO11.s18 (X : SO11) (ok : SO11Ok X) {Q : Exit → Act → World → Prop} : StepG (opsOf 11 Tryz.f43) SO11.acts SO11.av X.val0 X.Wd X.a0 Q 18 := by
  intro γ listed a w o hF hC hW h1 ho h2
  obtain ⟨hd, hop, hg⟩ := fields2 (x := some 70) (y := Op.load 112 (.tmp 11)) (z := none) (by kernel_rfl) ho
  have e11 : a.eval (.tmp 11) = .pointer (some ⟨X.g1, 0, none⟩) := (hF.eval0 (by kernel_rfl)).trans ok.e11
  have hph := phase_leG (acts := SO11.acts) (m := 4) (x := 19) hC (unl (hF.lt ho) h1) rfl [18] (by kernel_rfl) (by decide)
  have hWW := hW
  generalize phase listed SO11.acts = n at hph hWW
  have hk : Nw X.W w := SO11.nw (fun w v h => (ok.n1 w v h).1) (by omega) hWW
  have hc0 := ((bcell hk).1 _ _ (World.block_lt_of_cell? X.W ⟨X.g1, 0, none⟩ ok.l0_)).trans ok.l0_
  have hc1 := ((bcell hk).1 _ _ (World.block_lt_of_cell? X.W ⟨X.g1, 1, none⟩ ok.l1_)).trans ok.l1_
  have hc2 := ((bcell hk).1 _ _ (World.block_lt_of_cell? X.W ⟨X.g1, 2, none⟩ ok.l2_)).trans ok.l2_
  have hc3 := ((bcell hk).1 _ _ (World.block_lt_of_cell? X.W ⟨X.g1, 3, none⟩ ok.l3_)).trans ok.l3_
  have hc4 := ((bcell hk).1 _ _ (World.block_lt_of_cell? X.W ⟨X.g1, 4, none⟩ ok.l4_)).trans ok.l4_
  have hc5 := ((bcell hk).1 _ _ (World.block_lt_of_cell? X.W ⟨X.g1, 5, none⟩ ok.l5_)).trans ok.l5_
  refine st_pureG hF hC hW ho h2 (by decide) hd hg rfl ?_
  show _ = Result.ok (Next.value (.agg #[.int .i64 X.l0, .int .i64 X.l1, .int .i64 X.l2, .int .i64 X.l3, .int .i64 X.l4, .int .i64 X.l5])) w
  generalize a.eval = ρ at e11 ⊢
  unfold execOp
  rw [hop]
  simp [e11, hc0, hc1, hc2, hc3, hc4, hc5, go_sem]
theorem SO11.s19 (X : SO11) (ok : SO11Ok X) {Q : Exit → Act → World → Prop} : StepG (opsOf 11 Tryz.f43) SO11.acts SO11.av X.val0 X.Wd X.a0 Q 19 := by
  intro γ listed a w o hF hC hW h1 ho h2
  obtain ⟨hd, hop, hg⟩ := fields2 (x := some 71) (y := Op.call { callee := .value (.func 77), args := #[(.tmp 70)], argTypes := #[112] }) (z := none) (by kernel_rfl) ho
  have e70 : a.eval (.tmp 70) = .agg #[.int .i64 X.l0, .int .i64 X.l1, .int .i64 X.l2, .int .i64 X.l3, .int .i64 X.l4, .int .i64 X.l5] := slotG hF ho h2 (j := 18) (d := 70) (by kernel_rfl) (by kernel_rfl) (by rw [ok.sz]; decide)
  have ef : a.eval (.func 77) = .func (.func 77) #[] #[] := rfl
  have hu := unl (hF.lt ho) h1
  refine st_actG (k := 4) SO11.chain SO11.nodup rfl hF hC hW h1 ho h2 (Or.inr ⟨71, hd, rfl⟩) (SO11.inj (by kernel_rfl) hu) hg ?_
  intro hW0 K hK
  have hr : (execOp a.eval o).run Tryz.prog w = .ok (.enter 77 #[.agg #[.int .i64 X.l0, .int .i64 X.l1, .int .i64 X.l2, .int .i64 X.l3, .int .i64 X.l4, .int .i64 X.l5]]) w := by
    generalize a.eval = ρ at e70 ef ⊢
    unfold execOp
    rw [hop]
    simp [e70, ef, go_sem]
  unfold Oper.wp
  rw [hr]
  refine Calls.mono (ionward w _ _ _ _ _ _ ok.wl4) ?_
  rintro e w' ⟨rfl, h⟩
  exact hK _ _ ⟨rfl, ok.k1 _ _ _ hW0 h⟩
theorem SO11.s20 (X : SO11) (ok : SO11Ok X) {Q : Exit → Act → World → Prop} : StepG (opsOf 11 Tryz.f43) SO11.acts SO11.av X.val0 X.Wd X.a0 Q 20 := by
  intro γ listed a w o hF hC hW h1 ho h2
  obtain ⟨hd, hop, hg⟩ := fields2 (x := some 72) (y := Op.move (.tmp 6)) (z := none) (by kernel_rfl) ho
  have e6 : a.eval (.tmp 6) = .int .i64 (X.h) := (hF.eval0 (by kernel_rfl)).trans ok.e6
  refine st_pureG hF hC hW ho h2 (by decide) hd hg rfl ?_
  show _ = Result.ok (Next.value (.int .i64 (X.h))) w
  generalize a.eval = ρ at e6 ⊢
  unfold execOp
  rw [hop]
  simp [e6, go_sem]
theorem SO11.s21 (X : SO11) (ok : SO11Ok X) {Q : Exit → Act → World → Prop} : StepG (opsOf 11 Tryz.f43) SO11.acts SO11.av X.val0 X.Wd X.a0 Q 21 := by
  intro γ listed a w o hF hC hW h1 ho h2
  obtain ⟨hd, hop, hg⟩ := fields2 (x := some 73) (y := Op.build 115 #[(0, (.tmp 67)), (1, (.tmp 69)), (2, (.tmp 71)), (3, (.tmp 72))]) (z := none) (by kernel_rfl) ho
  have e67 : a.eval (.tmp 67) = .agg #[.int .i64 X.l2, .int .i64 X.l3] := slotG hF ho h2 (j := 15) (d := 67) (by kernel_rfl) (by kernel_rfl) (by rw [ok.sz]; decide)
  have e69 : a.eval (.tmp 69) = .agg #[.int .i64 X.l4, .int .i64 X.l5] := slotG hF ho h2 (j := 17) (d := 69) (by kernel_rfl) (by kernel_rfl) (by rw [ok.sz]; decide)
  have e71 : a.eval (.tmp 71) = γ 4 := slotG hF ho h2 (j := 19) (d := 71) (by kernel_rfl) (by kernel_rfl) (by rw [ok.sz]; decide)
  have e72 : a.eval (.tmp 72) = .int .i64 (X.h) := slotG hF ho h2 (j := 20) (d := 72) (by kernel_rfl) (by kernel_rfl) (by rw [ok.sz]; decide)
  have hu := unl (hF.lt ho) h1
  refine st_actG (k := 5) SO11.chain SO11.nodup rfl hF hC hW h1 ho h2 (Or.inr ⟨73, hd, rfl⟩) (SO11.inj (by kernel_rfl) hu) hg ?_
  intro hW0 K hK
  obtain ⟨g1, hk⟩ := hW0
  rw [g1] at e71
  have hr : (execOp a.eval o).run Tryz.prog w = .ok (.value (.agg #[.int .i64 X.l2, .int .i64 X.l3, .int .i64 X.l4, .int .i64 X.l5, .int .i64 X.l5, .int .i64 (-X.l4), .int .i64 X.h])) w := by
    generalize a.eval = ρ at e67 e69 e71 e72 ⊢
    unfold execOp
    rw [hop]
    simp [e67, e69, e71, e72, go_sem]
  unfold Oper.wp
  rw [hr]
  exact hK _ _ ⟨rfl, hk⟩
theorem SO11.s22 (X : SO11) (ok : SO11Ok X) {Q : Exit → Act → World → Prop} : StepG (opsOf 11 Tryz.f43) SO11.acts SO11.av X.val0 X.Wd X.a0 Q 22 := by
  intro γ listed a w o hF hC hW h1 ho h2
  obtain ⟨hd, hop, hg⟩ := fields2 (x := some 74) (y := Op.call { callee := .value (.tmp 65), args := #[(.tmp 73)], argTypes := #[115] }) (z := none) (by kernel_rfl) ho
  have e65 : a.eval (.tmp 65) = .func (.func X.fn) #[] #[] := slotG hF ho h2 (j := 13) (d := 65) (by kernel_rfl) (by kernel_rfl) (by rw [ok.sz]; decide)
  have e73 : a.eval (.tmp 73) = γ 5 := slotG hF ho h2 (j := 21) (d := 73) (by kernel_rfl) (by kernel_rfl) (by rw [ok.sz]; decide)
  have hu := unl (hF.lt ho) h1
  refine st_actG (k := 6) SO11.chain SO11.nodup rfl hF hC hW h1 ho h2 (Or.inr ⟨74, hd, rfl⟩) (SO11.inj (by kernel_rfl) hu) hg ?_
  intro hW0 K hK
  obtain ⟨g3, hP⟩ := hW0
  rw [g3] at e73
  have hr : (execOp a.eval o).run Tryz.prog w = .ok (.enter X.fn #[.agg #[.int .i64 X.l2, .int .i64 X.l3, .int .i64 X.l4, .int .i64 X.l5, .int .i64 X.l5, .int .i64 (-X.l4), .int .i64 X.h]]) w := by
    have fx := ok.fx
    generalize a.eval = ρ at e65 e73 ⊢
    unfold execOp
    rw [hop]
    simp [e65, e73, fx, go_sem]
  unfold Oper.wp
  rw [hr]
  refine Calls.mono (ok.h2 _ _ hP) ?_
  rintro e w' ⟨v, rfl, h⟩
  exact hK _ _ h
theorem SO11.s23 (X : SO11) (ok : SO11Ok X) {Q : Exit → Act → World → Prop} : StepG (opsOf 11 Tryz.f43) SO11.acts SO11.av X.val0 X.Wd X.a0 Q 23 := by
  intro γ listed a w o hF hC hW h1 ho h2
  obtain ⟨hd, hop, hg⟩ := fields2 (x := some 75) (y := Op.buildSlice 126 3 #[(0, (.tmp 52)), (1, (.tmp 64)), (2, (.tmp 74))]) (z := none) (by kernel_rfl) ho
  have e52 : a.eval (.tmp 52) = X.sv := slotG hF ho h2 (j := 0) (d := 52) (by kernel_rfl) (by kernel_rfl) (by rw [ok.sz]; decide)
  have e64 : a.eval (.tmp 64) = γ 3 := slotG hF ho h2 (j := 12) (d := 64) (by kernel_rfl) (by kernel_rfl) (by rw [ok.sz]; decide)
  have e74 : a.eval (.tmp 74) = γ 6 := slotG hF ho h2 (j := 22) (d := 74) (by kernel_rfl) (by kernel_rfl) (by rw [ok.sz]; decide)
  have hu := unl (hF.lt ho) h1
  refine st_actG (k := 7) SO11.chain SO11.nodup rfl hF hC hW h1 ho h2 (Or.inr ⟨75, hd, rfl⟩) (SO11.inj (by kernel_rfl) hu) hg ?_
  intro hW0 K hK
  obtain ⟨⟨a1, n1, c1, q1⟩, ⟨a2, n2, c2, q2⟩⟩ := ok.n2 _ _ _ hW0
  obtain ⟨a3, n3, c3, q3⟩ := ok.s1
  have hr : (execOp a.eval o).run Tryz.prog w = .ok (.value (.slice (some ⟨w.heap.size, 0, none⟩) 3 3)) (w.alloc (.cells #[X.sv, γ 3, γ 6] 29)) := by
    rw [q3] at e52 ⊢
    rw [q1] at e64 ⊢
    rw [q2] at e74 ⊢
    generalize a.eval = ρ at e52 e64 e74 ⊢
    unfold execOp
    rw [hop]
    simp [e52, e64, e74, go_sem]
  unfold Oper.wp
  rw [hr]
  exact hK _ _ ⟨w, hW0, rfl, rfl⟩
theorem SO11.s24 (X : SO11) (ok : SO11Ok X) {Q : Exit → Act → World → Prop} : StepG (opsOf 11 Tryz.f43) SO11.acts SO11.av X.val0 X.Wd X.a0 Q 24 := by
  intro γ listed a w o hF hC hW h1 ho h2
  obtain ⟨hd, hop, hg⟩ := fields2 (x := some 76) (y := Op.call { callee := .value (.func 71), args := #[(.tmp 75)], argTypes := #[126] }) (z := none) (by kernel_rfl) ho
  have e75 : a.eval (.tmp 75) = γ 7 := slotG hF ho h2 (j := 23) (d := 75) (by kernel_rfl) (by kernel_rfl) (by rw [ok.sz]; decide)
  have ef : a.eval (.func 71) = .func (.func 71) #[] #[] := rfl
  have hu := unl (hF.lt ho) h1
  refine st_actG (k := 8) SO11.chain SO11.nodup rfl hF hC hW h1 ho h2 (Or.inr ⟨76, hd, rfl⟩) (SO11.inj (by kernel_rfl) hu) hg ?_
  intro hW0 K hK
  obtain ⟨w1, hP, g3, hw⟩ := hW0
  rw [g3] at e75
  have hr : (execOp a.eval o).run Tryz.prog w = .ok (.enter 71 #[.slice (some ⟨w1.heap.size, 0, none⟩) 3 3]) w := by
    generalize a.eval = ρ at e75 ef ⊢
    unfold execOp
    rw [hop]
    simp [e75, ef, go_sem]
  unfold Oper.wp
  rw [hr]
  refine Calls.mono (by rw [hw]; exact ok.h3 _ _ _ hP) ?_
  rintro e w' ⟨v, rfl, h⟩
  exact hK _ _ h
theorem SO11.s25 (X : SO11) (ok : SO11Ok X) {Q : Exit → Act → World → Prop} : StepG (opsOf 11 Tryz.f43) SO11.acts SO11.av X.val0 X.Wd X.a0 Q 25 := by
  intro γ listed a w o hF hC hW h1 ho h2
  obtain ⟨hd, hop, hg⟩ := fields2 (x := some 4) (y := Op.assign (.tmp 76)) (z := none) (by kernel_rfl) ho
  have e76 : a.eval (.tmp 76) = γ 8 := slotG hF ho h2 (j := 24) (d := 76) (by kernel_rfl) (by kernel_rfl) (by rw [ok.sz]; decide)
  have hu := unl (hF.lt ho) h1
  refine st_actG (k := 9) SO11.chain SO11.nodup rfl hF hC hW h1 ho h2 (Or.inr ⟨4, hd, rfl⟩) (SO11.inj (by kernel_rfl) hu) hg ?_
  intro hW0 K hK
  have hr : (execOp a.eval o).run Tryz.prog w = .ok (.value (γ 8)) w := by
    generalize a.eval = ρ at e76 ⊢
    unfold execOp
    rw [hop]
    simp [e76, go_sem]
  unfold Oper.wp
  rw [hr]
  exact hK _ _ hW0
theorem SO11.size : (opsOf 11 Tryz.f43).size = 26 := by kernel_rfl
theorem SO11.steps (X : SO11) (ok : SO11Ok X) {Q : Exit → Act → World → Prop} (i : Nat) (hi : i < (opsOf 11 Tryz.f43).size) : StepG (opsOf 11 Tryz.f43) SO11.acts SO11.av X.val0 X.Wd X.a0 Q i := by
  rw [SO11.size] at hi
  have hc : i = 0 ∨ i = 1 ∨ i = 2 ∨ i = 3 ∨ i = 4 ∨ i = 5 ∨ i = 6 ∨ i = 7 ∨ i = 8 ∨ i = 9 ∨ i = 10 ∨ i = 11 ∨ i = 12 ∨ i = 13 ∨ i = 14 ∨ i = 15 ∨ i = 16 ∨ i = 17 ∨ i = 18 ∨ i = 19 ∨ i = 20 ∨ i = 21 ∨ i = 22 ∨ i = 23 ∨ i = 24 ∨ i = 25 := by omega
  rcases hc with rfl | rfl | rfl | rfl | rfl | rfl | rfl | rfl | rfl | rfl | rfl | rfl | rfl | rfl | rfl | rfl | rfl | rfl | rfl | rfl | rfl | rfl | rfl | rfl | rfl | rfl
  · exact SO11.s0 X ok
  · exact SO11.s1 X ok
  · exact SO11.s2 X ok
  · exact SO11.s3 X ok
  · exact SO11.s4 X ok
  · exact SO11.s5 X ok
  · exact SO11.s6 X ok
  · exact SO11.s7 X ok
  · exact SO11.s8 X ok
  · exact SO11.s9 X ok
  · exact SO11.s10 X ok
  · exact SO11.s11 X ok
  · exact SO11.s12 X ok
  · exact SO11.s13 X ok
  · exact SO11.s14 X ok
  · exact SO11.s15 X ok
  · exact SO11.s16 X ok
  · exact SO11.s17 X ok
  · exact SO11.s18 X ok
  · exact SO11.s19 X ok
  · exact SO11.s20 X ok
  · exact SO11.s21 X ok
  · exact SO11.s22 X ok
  · exact SO11.s23 X ok
  · exact SO11.s24 X ok
  · exact SO11.s25 X ok
theorem SO11.puts (X : SO11) (γ : Nat → Value) (a0 : Act) : putsL (valG SO11.av X.val0 γ) (opsOf 11 Tryz.f43).toList a0 = ((((((((((((((((((((((((((a0.put (some 52) (X.sv)).put (some 53) (.func (.func X.fn) #[] #[])).put (some 54) (.pointer (some ⟨X.g0, 0, none⟩))).put (some 55) (.agg #[.int .i64 X.f0, .int .i64 X.f1])).put (some 56) (.pointer (some ⟨X.g0, 4, none⟩))).put (some 57) (.agg #[.int .i64 X.f4, .int .i64 X.f5])).put (some 58) (.agg #[.int .i64 0, .int .i64 0])).put (some 59) (.agg #[.int .i64 X.f0, .int .i64 X.f1, .int .i64 X.f2, .int .i64 X.f3, .int .i64 X.f4, .int .i64 X.f5])).put (some 60) (γ 0)).put (some 61) (γ 1)).put (some 62) (.int .i64 (X.h))).put (some 63) (γ 2)).put (some 64) (γ 3)).put (some 65) (.func (.func X.fn) #[] #[])).put (some 66) (.pointer (some ⟨X.g1, 2, none⟩))).put (some 67) (.agg #[.int .i64 X.l2, .int .i64 X.l3])).put (some 68) (.pointer (some ⟨X.g1, 4, none⟩))).put (some 69) (.agg #[.int .i64 X.l4, .int .i64 X.l5])).put (some 70) (.agg #[.int .i64 X.l0, .int .i64 X.l1, .int .i64 X.l2, .int .i64 X.l3, .int .i64 X.l4, .int .i64 X.l5])).put (some 71) (γ 4)).put (some 72) (.int .i64 (X.h))).put (some 73) (γ 5)).put (some 74) (γ 6)).put (some 75) (γ 7)).put (some 76) (γ 8)).put (some 4) (γ 9)) := by kernel_rfl
/-- The region, whatever order comes up. -/
theorem SO11.run (X : SO11) (ok : SO11Ok X) {Q : Exit → Act → World → Prop} (w : World) (h0 : X.Wd 0 (fun _ => undef) w.drew) (hend : ∀ (γ : Nat → Value) w', X.Wd 10 γ w' → Q .normal ((((((((((((((((((((((((((X.a0.put (some 52) (X.sv)).put (some 53) (.func (.func X.fn) #[] #[])).put (some 54) (.pointer (some ⟨X.g0, 0, none⟩))).put (some 55) (.agg #[.int .i64 X.f0, .int .i64 X.f1])).put (some 56) (.pointer (some ⟨X.g0, 4, none⟩))).put (some 57) (.agg #[.int .i64 X.f4, .int .i64 X.f5])).put (some 58) (.agg #[.int .i64 0, .int .i64 0])).put (some 59) (.agg #[.int .i64 X.f0, .int .i64 X.f1, .int .i64 X.f2, .int .i64 X.f3, .int .i64 X.f4, .int .i64 X.f5])).put (some 60) (γ 0)).put (some 61) (γ 1)).put (some 62) (.int .i64 (X.h))).put (some 63) (γ 2)).put (some 64) (γ 3)).put (some 65) (.func (.func X.fn) #[] #[])).put (some 66) (.pointer (some ⟨X.g1, 2, none⟩))).put (some 67) (.agg #[.int .i64 X.l2, .int .i64 X.l3])).put (some 68) (.pointer (some ⟨X.g1, 4, none⟩))).put (some 69) (.agg #[.int .i64 X.l4, .int .i64 X.l5])).put (some 70) (.agg #[.int .i64 X.l0, .int .i64 X.l1, .int .i64 X.l2, .int .i64 X.l3, .int .i64 X.l4, .int .i64 X.l5])).put (some 71) (γ 4)).put (some 72) (.int .i64 (X.h))).put (some 73) (γ 5)).put (some 74) (γ 6)).put (some 75) (γ 7)).put (some 76) (γ 8)).put (some 4) (γ 9)) w') : (Code.region 11 (opsOf 11 Tryz.f43) true).wp Tryz.prog Q X.a0 w := by
  refine reg_act (acts := SO11.acts) (av := SO11.av) (val0 := X.val0) (Wd := X.Wd) (by kernel_rfl) (by kernel_rfl) (by rw [SO11.size]; decide) (fun i hi => SO11.steps X ok i hi) _ h0 ?_
  intro γ w' h
  rw [SO11.puts]
  exact hend γ w' h
end Go.Proofs.YtfdjjbgcaojcnaaGreat
namespace Go.Proofs.YtfdjjbgcaojcnaaGreat
open Go.ChangeShapes Go.WideShapes Go.ChangeAt Go.RowKit
set_option linter.unusedVariables false

/-- A segment: where it begins, where it ends, its side. -/
structure Sg where
  f : Pnt
  t : Pnt
  s : Pnt
instance : Inhabited Sg := ⟨⟨(0, 0), (0, 0), (0, 0)⟩⟩
def sgC (x : Sg) : List Value := [.int .i64 x.f.1, .int .i64 x.f.2, .int .i64 x.t.1, .int .i64 x.t.2, .int .i64 x.s.1, .int .i64 x.s.2]
def sgAt (l : List Sg) (i : Nat) : Sg := l.getD i default
def flat6 (l : List Sg) : List Value := l.flatMap sgC
theorem flat6_len (l : List Sg) : (flat6 l).length = l.length * 6 := by
  induction l with
  | nil => rfl
  | cons x l ih =>
    show (sgC x ++ flat6 l).length = _
    rw [List.length_append, ih]
    simp [sgC]; omega
theorem flat6_append (l m : List Sg) : flat6 (l ++ m) = flat6 l ++ flat6 m := by simp [flat6]
theorem flat6_at (l : List Sg) : ∀ i j, i < l.length → j < 6 → (flat6 l)[i * 6 + j]? = (sgC (sgAt l i))[j]? := by
  induction l with
  | nil => intro i j h; cases h
  | cons x l ih =>
    intro i j hi hj
    show (sgC x ++ flat6 l)[i * 6 + j]? = _
    cases i with
    | zero =>
      rw [List.getElem?_append_left (by simp [sgC]; omega)]
      simp [sgAt]
    | succ i =>
      rw [List.getElem?_append_right (by simp [sgC]; omega)]
      have e : (i + 1) * 6 + j - (sgC x).length = i * 6 + j := by simp [sgC]; omega
      rw [e, ih i j (by simpa using hi) hj]
      simp [sgAt]
/-- The segments l in a list of the call's own. -/
def OwnG (w : World) (B : Nat) (v : Value) (l : List Sg) : Prop := w.ownsRow B 112 6 v l.length (flat6 l)
theorem OwnG.nil (w : World) (B : Nat) : OwnG w B (.slice none 0 0) [] := World.ownsRow_nil w B _ 6
theorem OwnG.nw {w w' : World} {B : Nat} {v : Value} {l : List Sg} (h : OwnG w B v l) (k : Nw w w') : OwnG w' B v l :=
  World.ownsRow.kept h (row := none) ⟨Below.os k, Below.tape k, Below.output k, Below.size k, fun b hb _ => Below.block k b hb⟩ (by cases hv : v.ownBlock <;> simp)
theorem OwnG.lt {w : World} {B : Nat} {v : Value} {l : List Sg} (h : OwnG w B v l) : ∀ g, v.ownBlock = some g → B ≤ g ∧ g < w.heap.size := World.ownsRow.lt h
theorem OwnG.slice {w : World} {B : Nat} {v : Value} {l : List Sg} (h : OwnG w B v l) : ∃ a c, v = .slice a l.length c := by
  rcases h.2 with ⟨hn, h1⟩ | ⟨g, cap, cur, h1, _⟩
  · exact ⟨_, _, by rw [h1]; exact hn⟩
  · exact ⟨_, _, h1⟩
/-- Segments that are read. -/
def Sgs (w : World) (a : Option Addr) (l : List Sg) : Prop := l = [] ∨ ∃ g, a = some ⟨g, 0, none⟩ ∧ ∀ i, i < l.length → ∀ j u, (sgC (sgAt l i))[j]? = some u → w.cell? ⟨g, i * 6 + j, none⟩ = some u
theorem Sgs.nw {w w' : World} {a : Option Addr} {l : List Sg} (h : Sgs w a l) (k : Nw w w') : Sgs w' a l := by
  rcases h with h | ⟨g, h1, h2⟩
  · exact Or.inl h
  · refine Or.inr ⟨g, h1, fun i hi j u hj => ?_⟩
    have h3 := h2 i hi j u hj
    exact ((bcell k).1 _ _ (World.block_lt_of_cell? w ⟨g, _, none⟩ h3)).trans h3
theorem OwnG.sgs {w : World} {B : Nat} {v : Value} {l : List Sg} (h : OwnG w B v l) : ∃ a c, v = .slice a l.length c ∧ Sgs w a l := by
  have h0 := h
  unfold OwnG at h0
  rcases h.2 with ⟨hn, h1⟩ | ⟨g, cap, cur, h1, h2, h3, h4, h5, h6, h7⟩
  · exact ⟨_, _, by rw [h1]; exact hn, Or.inl (List.eq_nil_of_length_eq_zero h1)⟩
  · subst h1
    refine ⟨_, _, rfl, Or.inr ⟨g, rfl, fun i hi j u hj => ?_⟩⟩
    have hj6 : j < 6 := by have := (List.getElem?_eq_some_iff.1 hj).1; simpa [sgC] using this
    rw [World.ownsRow.cellAt h0 (i * 6 + j) (by omega), flat6_at l i j hi hj6]
    exact hj
theorem under_sgs : Tryz.prog.underlying 102 = some (.slice 112) := Tryz.underlying102
theorem sgC_one (y : Sg) : ∀ u ∈ sgC y, u.oneCell' = true := by
  intro u hu
  simp only [sgC, List.mem_cons, List.not_mem_nil, or_false] at hu
  rcases hu with rfl | rfl | rfl | rfl | rfl | rfl <;> rfl
theorem info_sg : (Tryz.prog.info? 112).map (fun i => (i.zero, i.size, i.bytes)) = some (some (.agg #[.int .i64 0, .int .i64 0, .int .i64 0, .int .i64 0, .int .i64 0, .int .i64 0]), 6, 48) := by kernel_rfl
/-- One segment more. -/
theorem wpl_g {ops : Array Oper} {rest : List Oper} {o : Oper} {a : Act} {Q : Exit → Act → World → Prop} (w : World) (hgd : o.guard = none) (s x : Operand)
    (ho : o.op = .call { callee := .builtin .append, args := #[s, x], argTypes := #[102, 102] }) (B : Nat) (v : Value) (l : List Sg) (y : Sg) (hs : a.eval s = v) (hown : OwnG w B v l) (g : Nat) (hx : a.eval x = .slice (some ⟨g, 0, none⟩) 1 1)
    (hc : ∀ j u, (sgC y)[j]? = some u → w.cell? ⟨g, j, none⟩ = some u) (hl : l.length + 1 ≤ 1000000) (hB : B ≤ w.heap.size)
    (h : ∀ g' c' w', OwnG w' B (.slice (some ⟨g', 0, none⟩) (l.length + 1) c') (l ++ [y]) → Ext v (.slice (some ⟨g', 0, none⟩) (l.length + 1) c') w w' → wpList Tryz.prog ops Q rest (a.put o.dst (.slice (some ⟨g', 0, none⟩) (l.length + 1) c')) w') : wpList Tryz.prog ops Q (o :: rest) a w := by
  obtain ⟨i0, hi, hzz'⟩ := Option.map_eq_some_iff.1 info_sg
  simp only [Prod.mk.injEq] at hzz'
  obtain ⟨hz0, hz1, hz2⟩ := hzz'
  refine wpList_append_lies w hgd s x 102 ho B 112 i0 _ 6 48 under_sgs hi hz0 hz1 hz2 (by rfl) (by decide) v l.length (flat6 l) hs hown ⟨g, 0, none⟩ 1 1 (sgC y) hx rfl (fun j u hj => by rw [add_at, Nat.zero_add]; exact hc j u hj) (sgC_one y) (by decide) (by unfold maxLen; omega) (by omega) hB w.heap.size rfl ?_
  intro g' cap w' h2 h3 h4 h5
  refine h g' cap w' ?_ ⟨h3, ?_⟩
  · unfold OwnG
    rw [List.length_append, flat6_append]
    have : flat6 [y] = sgC y := by simp [flat6]
    rw [this]
    exact h2
  · rcases h4 with h4 | h4
    · exact Or.inl (by rw [h4]; rfl)
    · exact Or.inr ⟨g', rfl, by omega⟩
end Go.Proofs.YtfdjjbgcaojcnaaGreat
