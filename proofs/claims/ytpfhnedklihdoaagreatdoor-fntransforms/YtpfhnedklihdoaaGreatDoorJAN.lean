/-
  What the specification makes of one word of a transform, some of the ways; each theorem names its conditions.
  What the specification makes of one word of a transform, some of the ways; each theorem names its conditions.
  A region that draws its order, by one condition that every operation keeps: whatever order comes up; each theorem names its conditions.
  A region that draws its order and holds a row of operations that act on the memory, each waiting for the one ahead: whatever order comes up; each theorem names its conditions.
-/
import Derived.Test.YtpfhnedklihdoaaGreatDoorJAM
import Derived.Test.YtpfhnedklihdoaaGreatDoorJAA
import Derived.Orders
namespace Go.Proofs.YtpfhnedklihdoaaGreatDoor
open Go.ChangeShapes Go.WideShapes Go.ChangeAt Go.RowKit
set_option linter.unusedVariables false

set_option maxRecDepth 100000 in
set_option maxHeartbeats 16000000 in
theorem one_K (w : World) (word : ByteArray) (va : Option Addr) (vc : Nat) (l : List Int) (hl : l.length ≤ 60) (hn : Nms w va l) (hkn : Kn word l false false false false true false true false false false ∨ Kn word l false false false false false true true false false false) :
    Calls Tryz.prog 71 #[.string word, .slice va l.length vc] w fun e w' => AffSome e ∧ Nw w w' := by
  have HN : Hid (Nms w va l) := hn
  clear hn
  obtain ⟨W0, hW0⟩ : ∃ W0, w.alloc (.cells #[.int .i64 0, .int .i64 0, .int .i64 0, .int .i64 0, .int .i64 0, .int .i64 0] 24) = W0 := ⟨_, rfl⟩
  have HW0 : Hid (_ = W0) := hW0
  clear hW0
  go_enter Tryz.func71, Tryz.ntmps71
  go_wp2_with fail
  rw [HW0.out]
  refine (ssame W0).mono ?_
  rintro e w1 ⟨rfl, h1⟩
  have HO : Hid (OS w _ w1.heap.size) := OS.start w W0 w1 HW0.out h1
  clear h1 HW0
  obtain ⟨W, hW⟩ : ∃ W, w1.alloc (.cells #[.int .i64 65536, .int .i64 0, .int .i64 0, .int .i64 65536, .int .i64 0, .int .i64 0] 24) = W := ⟨_, rfl⟩
  have HW : Hid (_ = W) := hW
  rw [hW] at HO
  clear hW
  go_upto_block 0 with fail
  rw [HW.out]
  clear HW
  generalize w1.heap.size = P at *
  clear w1
  go_cut [] (fun wx => OS w wx P)
  case first =>
    rcases hkn with h | h
    · have hk : l.length = 1 := by have := h.k1; simp at this; omega
      obtain ⟨c0, c1, c2, c3, c4, c5, k1, k2, k3, k6⟩ := h
      obtain ⟨g, rfl, hg, n0⟩ := HN.out 0 (by omega)
      have b0 : (0 : Int) < (l.length : Int) := by omega
      have hgP : g ≠ P := by have := HO.out.hP; omega
      have m0 := ((bcell HO.out.nw).1 _ 0 hg).trans n0
      clear hk
      obtain ⟨a0, a1, a2, a3, a4, a5, y0, y1, y2, y3, y4, y5, yf⟩ := HO.out.p.get
      obtain ⟨t, ht, hT⟩ := turn_some (intAt l 0)
      obtain ⟨sv, hS⟩ := sin_some t ht
      obtain ⟨cv, hC⟩ := cos_some t ht
      obtain ⟨dv, hD⟩ := div_some sv cv
      have HT : Hid _ := hT
      have HS : Hid _ := hS
      have HC : Hid _ := hC
      have HD : Hid _ := hD
      clear hT hS hC hD ht
      go_wp2_with fail
      refine (HT.out W).mono ?_
      rintro e w2 ⟨rfl, hq⟩
      have hq2 := hq.symm; clear hq; subst hq2
      go_wp2_with fail
      refine (HS.out W).mono ?_
      rintro e w3 ⟨rfl, k3'⟩
      have O3 : Hid (OS w w3 P) := HO.out.go k3'.nw
      clear k3'
      go_wp2_with fail
      refine (HC.out w3).mono ?_
      rintro e w4 ⟨rfl, k4'⟩
      have O4 : Hid (OS w w4 P) := O3.out.go k4'.nw
      clear k4'
      go_wp2_with fail
      refine (HD.out w4).mono ?_
      rintro e w5 ⟨rfl, k5'⟩
      have O5 : Hid (OS w w5 P) := O4.out.go k5'.nw
      clear k5' y0 y1 y2 y3 y4 y5 yf
      obtain ⟨a0, a1, a2, a3, a4, a5, y0, y1, y2, y3, y4, y5, yf⟩ := O5.out.p.get
      have HE : Hid _ := O5.out.set 2 dv (by omega)
      go_wp2
      go_meet
      exact HE.out
    · have hk : l.length = 1 := by have := h.k1; simp at this; omega
      obtain ⟨c0, c1, c2, c3, c4, c5, k1, k2, k3, k6⟩ := h
      obtain ⟨g, rfl, hg, n0⟩ := HN.out 0 (by omega)
      have b0 : (0 : Int) < (l.length : Int) := by omega
      have hgP : g ≠ P := by have := HO.out.hP; omega
      have m0 := ((bcell HO.out.nw).1 _ 0 hg).trans n0
      clear hk
      obtain ⟨a0, a1, a2, a3, a4, a5, y0, y1, y2, y3, y4, y5, yf⟩ := HO.out.p.get
      obtain ⟨t, ht, hT⟩ := turn_some (intAt l 0)
      obtain ⟨sv, hS⟩ := sin_some t ht
      obtain ⟨cv, hC⟩ := cos_some t ht
      obtain ⟨dv, hD⟩ := div_some sv cv
      have HT : Hid _ := hT
      have HS : Hid _ := hS
      have HC : Hid _ := hC
      have HD : Hid _ := hD
      clear hT hS hC hD ht
      go_wp2_with fail
      refine (HT.out W).mono ?_
      rintro e w2 ⟨rfl, hq⟩
      have hq2 := hq.symm; clear hq; subst hq2
      go_wp2_with fail
      refine (HS.out W).mono ?_
      rintro e w3 ⟨rfl, k3'⟩
      have O3 : Hid (OS w w3 P) := HO.out.go k3'.nw
      clear k3'
      go_wp2_with fail
      refine (HC.out w3).mono ?_
      rintro e w4 ⟨rfl, k4'⟩
      have O4 : Hid (OS w w4 P) := O3.out.go k4'.nw
      clear k4'
      go_wp2_with fail
      refine (HD.out w4).mono ?_
      rintro e w5 ⟨rfl, k5'⟩
      have O5 : Hid (OS w w5 P) := O4.out.go k5'.nw
      clear k5' y0 y1 y2 y3 y4 y5 yf
      obtain ⟨a0, a1, a2, a3, a4, a5, y0, y1, y2, y3, y4, y5, yf⟩ := O5.out.p.get
      have HE : Hid _ := O5.out.set 1 dv (by omega)
      go_wp2
      go_meet
      exact HE.out
  case rest =>
    have OE : Hid (OS w wc P) := hcut
    clear hcut HO HN
    obtain ⟨a0, a1, a2, a3, a4, a5, y0, y1, y2, y3, y4, y5, yf⟩ := OE.out.p.get
    obtain ⟨z0, z1, z2, z3, z4, z5, q0, q1, q2, q3, q4, q5, qf⟩ := OE.out.r.get
    have hPl := OE.out.p.lt
    have hRl := OE.out.r.lt
    clear yf
    go_wp2_with fail
    go_region_with (go_at_call 7; refine (sgoodAff _ a0 a1 a2 a3 a4 a5).mono ?_; rintro e w9 ⟨rfl, k9⟩; have kk := bcell k9.nw; have v0 := (kk.1 _ 0 hPl).trans y0; have v1 := (kk.1 _ 1 hPl).trans y1; have v2 := (kk.1 _ 2 hPl).trans y2; have v3 := (kk.1 _ 3 hPl).trans y3; have v4 := (kk.1 _ 4 hPl).trans y4; have v5 := (kk.1 _ 5 hPl).trans y5; have s0 := (kk.1 _ 0 hRl).trans q0; have s1 := (kk.1 _ 1 hRl).trans q1; have s2 := (kk.1 _ 2 hRl).trans q2; have s3 := (kk.1 _ 3 hRl).trans q3; have s4 := (kk.1 _ 4 hRl).trans q4; have s5 := (kk.1 _ 5 hRl).trans q5; have sf := fun o => (kk.2 _ o hRl).trans (qf o); clear kk)
    all_goals
      have N9 : Hid (Nw w w9) := Nw.trans OE.out.nw (nw_und k9.nw)
      obtain ⟨t0, t1, t2, t3, t4, t5⟩ := sset6 w9 w.heap.size (.int .i64 a0) (.int .i64 a1) (.int .i64 a2) (.int .i64 a3) (.int .i64 a4) (.int .i64 a5) s0 s1 s2 s3 s4 s5
      go_wp2
      refine bodyPost_ret (v := .tuple #[.agg #[.int .i64 a0, .int .i64 a1, .int .i64 a2, .int .i64 a3, .int .i64 a4, .int .i64 a5], .bool (gA a0 a1 a2 a3 a4 a5)]) (by simp [results, Tryz.results71, go_sem, t0, t1, t2, t3, t4, t5]) rfl ⟨⟨_, _, _, _, _, _, _, rfl⟩, nw_six N9.out (Nat.le_refl _) _ _ _ _ _ _⟩
end Go.Proofs.YtpfhnedklihdoaaGreatDoor
namespace Go.Proofs.YtpfhnedklihdoaaGreatDoor
open Go.ChangeShapes Go.WideShapes Go.ChangeAt Go.RowKit
set_option linter.unusedVariables false

set_option maxRecDepth 100000 in
set_option maxHeartbeats 16000000 in
theorem one_R (w : World) (word : ByteArray) (va : Option Addr) (vc : Nat) (l : List Int) (hl : l.length ≤ 60) (hn : Nms w va l) (hkn : Kn word l false false true false false false true false false false) :
    Calls Tryz.prog 71 #[.string word, .slice va l.length vc] w fun e w' => AffSome e ∧ Nw w w' := by
  have HN : Hid (Nms w va l) := hn
  clear hn
  obtain ⟨W0, hW0⟩ : ∃ W0, w.alloc (.cells #[.int .i64 0, .int .i64 0, .int .i64 0, .int .i64 0, .int .i64 0, .int .i64 0] 24) = W0 := ⟨_, rfl⟩
  have HW0 : Hid (_ = W0) := hW0
  clear hW0
  go_enter Tryz.func71, Tryz.ntmps71
  go_wp2_with fail
  rw [HW0.out]
  refine (ssame W0).mono ?_
  rintro e w1 ⟨rfl, h1⟩
  have HO : Hid (OS w _ w1.heap.size) := OS.start w W0 w1 HW0.out h1
  clear h1 HW0
  obtain ⟨W, hW⟩ : ∃ W, w1.alloc (.cells #[.int .i64 65536, .int .i64 0, .int .i64 0, .int .i64 65536, .int .i64 0, .int .i64 0] 24) = W := ⟨_, rfl⟩
  have HW : Hid (_ = W) := hW
  rw [hW] at HO
  clear hW
  go_upto_block 0 with fail
  rw [HW.out]
  clear HW
  generalize w1.heap.size = P at *
  clear w1
  go_cut [] (fun wx => OS w wx P)
  case first =>
    have h := hkn
    clear hkn
    · have hk : l.length = 1 := by have := h.k1; simp at this; omega
      obtain ⟨c0, c1, c2, c3, c4, c5, k1, k2, k3, k6⟩ := h
      obtain ⟨g, rfl, hg, n0⟩ := HN.out 0 (by omega)
      have b0 : (0 : Int) < (l.length : Int) := by omega
      have hgP : g ≠ P := by have := HO.out.hP; omega
      have m0 := ((bcell HO.out.nw).1 _ 0 hg).trans n0
      clear hk
      obtain ⟨a0, a1, a2, a3, a4, a5, y0, y1, y2, y3, y4, y5, yf⟩ := HO.out.p.get
      obtain ⟨t, ht, hT⟩ := turn_some (intAt l 0)
      obtain ⟨sv, hS⟩ := sin_some t ht
      obtain ⟨cv, hC⟩ := cos_some t ht
      have HT : Hid _ := hT
      have HS : Hid _ := hS
      have HC : Hid _ := hC
      clear hT hS hC ht
      go_wp2_with fail
      refine (HT.out W).mono ?_
      rintro e w2 ⟨rfl, hq⟩
      have hq2 := hq.symm; clear hq; subst hq2
      go_wp2_with fail
      refine (HC.out W).mono ?_
      rintro e w3 ⟨rfl, k3'⟩
      have O3 : Hid (OS w w3 P) := HO.out.go k3'.nw
      clear k3'
      go_wp2_with fail
      refine (HS.out w3).mono ?_
      rintro e w4 ⟨rfl, k4'⟩
      have O4 : Hid (OS w w4 P) := O3.out.go k4'.nw
      clear k4'
      go_wp2_with fail
      refine (HS.out w4).mono ?_
      rintro e w5 ⟨rfl, k5'⟩
      have O5 : Hid (OS w w5 P) := O4.out.go k5'.nw
      clear k5'
      go_wp2_with fail
      refine (HC.out w5).mono ?_
      rintro e w6 ⟨rfl, k6'⟩
      have O6 : Hid (OS w w6 P) := O5.out.go k6'.nw
      clear k6' y0 y1 y2 y3 y4 y5 yf
      obtain ⟨a0, a1, a2, a3, a4, a5, y0, y1, y2, y3, y4, y5, yf⟩ := O6.out.p.get
      go_wp2
      go_meet
      exact O6.out.all cv sv _ cv 0 0
  case rest =>
    have OE : Hid (OS w wc P) := hcut
    clear hcut HO HN
    obtain ⟨a0, a1, a2, a3, a4, a5, y0, y1, y2, y3, y4, y5, yf⟩ := OE.out.p.get
    obtain ⟨z0, z1, z2, z3, z4, z5, q0, q1, q2, q3, q4, q5, qf⟩ := OE.out.r.get
    have hPl := OE.out.p.lt
    have hRl := OE.out.r.lt
    clear yf
    go_wp2_with fail
    go_region_with (go_at_call 7; refine (sgoodAff _ a0 a1 a2 a3 a4 a5).mono ?_; rintro e w9 ⟨rfl, k9⟩; have kk := bcell k9.nw; have v0 := (kk.1 _ 0 hPl).trans y0; have v1 := (kk.1 _ 1 hPl).trans y1; have v2 := (kk.1 _ 2 hPl).trans y2; have v3 := (kk.1 _ 3 hPl).trans y3; have v4 := (kk.1 _ 4 hPl).trans y4; have v5 := (kk.1 _ 5 hPl).trans y5; have s0 := (kk.1 _ 0 hRl).trans q0; have s1 := (kk.1 _ 1 hRl).trans q1; have s2 := (kk.1 _ 2 hRl).trans q2; have s3 := (kk.1 _ 3 hRl).trans q3; have s4 := (kk.1 _ 4 hRl).trans q4; have s5 := (kk.1 _ 5 hRl).trans q5; have sf := fun o => (kk.2 _ o hRl).trans (qf o); clear kk)
    all_goals
      have N9 : Hid (Nw w w9) := Nw.trans OE.out.nw (nw_und k9.nw)
      obtain ⟨t0, t1, t2, t3, t4, t5⟩ := sset6 w9 w.heap.size (.int .i64 a0) (.int .i64 a1) (.int .i64 a2) (.int .i64 a3) (.int .i64 a4) (.int .i64 a5) s0 s1 s2 s3 s4 s5
      go_wp2
      refine bodyPost_ret (v := .tuple #[.agg #[.int .i64 a0, .int .i64 a1, .int .i64 a2, .int .i64 a3, .int .i64 a4, .int .i64 a5], .bool (gA a0 a1 a2 a3 a4 a5)]) (by simp [results, Tryz.results71, go_sem, t0, t1, t2, t3, t4, t5]) rfl ⟨⟨_, _, _, _, _, _, _, rfl⟩, nw_six N9.out (Nat.le_refl _) _ _ _ _ _ _⟩
end Go.Proofs.YtpfhnedklihdoaaGreatDoor
namespace Go.Proofs.YtpfhnedklihdoaaGreatDoor
open Go.ChangeShapes Go.WideShapes Go.ChangeAt Go.RowKit
set_option linter.unusedVariables false

/-- The operations of region k of a function. -/
def regOf (k : Nat) : Go.Code → Option (Array Oper)
  | .region id ops _ => if id = k then some ops else none
  | .seq a b => match regOf k a with | some x => some x | none => regOf k b
  | .cond _ t e => match regOf k t with | some x => some x | none => regOf k e
  | .block _ b => regOf k b
  | .loop b => regOf k b
  | .scope b => regOf k b
  | _ => none
def opsOf (k : Nat) (f : Func) : Array Oper := (f.body.bind (regOf k)).getD #[]
theorem reg_change {P : Program} {Q : Exit → Act → World → Prop} {id : Nat} {ops ops' : Array Oper} {b : Bool} {a : Act} {w : World} (h : ops = ops') (hw : (Code.region id ops' b).wp P Q a w) : (Code.region id ops b).wp P Q a w := by rw [h]; exact hw
section
variable {P : Program} {md : Region.Mode} {ops : Array Oper} {Q : Exit → Act → World → Prop}

theorem flt_le {p q : Nat → Bool} (h : ∀ x, q x = true → p x = true) : ∀ l : List Nat, (l.filter q).length ≤ (l.filter p).length
  | [] => Nat.le_refl _
  | y :: l => by
    have ih := flt_le h l
    rw [List.filter_cons, List.filter_cons]
    cases hq : q y with
    | true => rw [h y hq]; simp only [if_true, List.length_cons]; omega
    | false =>
      cases hp : p y with
      | true => simp only [Bool.false_eq_true, if_false, if_true, List.length_cons]; omega
      | false => simp only [Bool.false_eq_true, if_false]; exact ih
theorem flt_lt {p q : Nat → Bool} (h : ∀ x, q x = true → p x = true) (x : Nat) (h1 : p x = true) (h2 : q x = false) : ∀ l : List Nat, x ∈ l → (l.filter q).length < (l.filter p).length
  | y :: l, hx => by
    rw [List.filter_cons, List.filter_cons]
    have le := flt_le h l
    by_cases e : x = y
    · subst e
      rw [h1, h2]
      simp only [Bool.false_eq_true, if_false, if_true, List.length_cons]; omega
    · have ih := flt_lt h x h1 h2 l (by rcases List.mem_cons.1 hx with h | h; exact absurd h e; exact h)
      cases hq : q y with
      | true => rw [h y hq]; simp only [if_true, List.length_cons]; omega
      | false =>
        cases hp : p y with
        | true => simp only [Bool.false_eq_true, if_false, if_true, List.length_cons]; omega
        | false => simp only [Bool.false_eq_true, if_false]; exact ih
/-- How many have not come up. -/
def left (n : Nat) (listed : Array Bool) : Nat := ((List.range n).filter fun i => !listed.getD i true).length
theorem left_set {n i : Nat} {listed : Array Bool} (hn : i < n) (h : listed.getD i true = false) : left n (listed.setIfInBounds i true) < left n listed := by
  have hi : i < listed.size := by
    rcases Nat.lt_or_ge i listed.size with h1 | h1
    · exact h1
    · rw [Array.getD_eq_getD_getElem?, Array.getElem?_eq_none h1] at h; cases h
  refine flt_lt (fun x hx => ?_) i (by rw [h]; rfl) ?_ _ (List.mem_range.2 hn)
  · by_cases e : i = x
    · subst e; rw [Array.getD_eq_getD_getElem?, Array.getElem?_setIfInBounds_self_of_lt hi] at hx; cases hx
    · rw [Array.getD_eq_getD_getElem?, Array.getElem?_setIfInBounds_ne e, ← Array.getD_eq_getD_getElem?] at hx; exact hx
  · rw [Array.getD_eq_getD_getElem?, Array.getElem?_setIfInBounds_self_of_lt hi]; rfl
/-- What every operation keeps holds at the end, whatever order comes up. -/
theorem wpAny_inv (I : Array Bool → Act → World → Prop)
    (hstep : ∀ listed a w i o, I listed a w → listed.getD i true = false → ops[i]? = some o → (∀ e ∈ o.after, Region.binds md e = true → listed.getD e.on false = true) → wpOp P ops Q i (fun a' w' => I (listed.setIfInBounds i true) a' w') a w)
    (hend : ∀ listed a w, I listed a w → Region.ready md ops listed = [] → Q .normal a w) :
    ∀ (fuel : Nat) (listed : Array Bool) (a : Act) (w : World), I listed a w → left ops.size listed ≤ fuel → wpAny P md ops Q fuel listed a w := by
  intro fuel
  induction fuel with
  | zero =>
    intro listed a w hI hl
    have hr : Region.ready md ops listed = [] := by
      rw [List.eq_nil_iff_forall_not_mem]
      intro i hi
      obtain ⟨h1, o, ho, _⟩ := mem_ready.1 hi
      have hlt : i < ops.size := (Array.getElem?_eq_some_iff.1 ho).1
      have := left_set hlt h1
      omega
    exact ⟨hr, hend listed a w hI hr⟩
  | succ fuel ih =>
    intro listed a w hI hl
    refine ⟨fun hr => hend listed a w hI hr, fun i hi => ?_⟩
    obtain ⟨h1, o, ho, h2⟩ := mem_ready.1 hi
    have hlt : i < ops.size := (Array.getElem?_eq_some_iff.1 ho).1
    have := left_set hlt h1
    exact wpOp_mono (fun a' w' h => ih _ a' w' h (by omega)) (hstep listed a w i o hI h1 ho h2)

/-- The slot that operation i fills. -/
def dstOf (ops : Array Oper) (i : Nat) : Option Nat := (ops[i]?).bind (·.dst)
def got (ops : Array Oper) (listed : Array Bool) (d : Nat) : Prop := ∃ i, listed.getD i false = true ∧ dstOf ops i = some d
/-- The frame: a slot that has been filled holds its value, the others what they held. -/
structure FrI (ops : Array Oper) (val : Nat → Value) (a0 : Act) (listed : Array Bool) (a : Act) : Prop where
  size : listed.size = ops.size
  defers : a.defers = a0.defers
  tsize : a.tmps.size = a0.tmps.size
  yes : ∀ d, d < a0.tmps.size → got ops listed d → a.tmps.getD d undef = val d
  no : ∀ d, ¬ got ops listed d → a.tmps.getD d undef = a0.tmps.getD d undef
theorem getF_set {listed : Array Bool} {i j : Nat} (hi : i < listed.size) : (listed.setIfInBounds i true).getD j false = (decide (j = i) || listed.getD j false) := by
  by_cases e : i = j
  · subst e; rw [Array.getD_eq_getD_getElem?, Array.getElem?_setIfInBounds_self_of_lt hi]; simp
  · rw [Array.getD_eq_getD_getElem?, Array.getElem?_setIfInBounds_ne e, ← Array.getD_eq_getD_getElem?, decide_eq_false (fun h => e h.symm)]; rfl
theorem got_set {listed : Array Bool} {i d : Nat} (hi : i < listed.size) : got ops (listed.setIfInBounds i true) d ↔ dstOf ops i = some d ∨ got ops listed d := by
  constructor
  · rintro ⟨j, h1, h2⟩
    rw [getF_set hi] at h1
    by_cases e : j = i
    · subst e; exact Or.inl h2
    · rw [decide_eq_false e] at h1; exact Or.inr ⟨j, h1, h2⟩
  · rintro (h | ⟨j, h1, h2⟩)
    · exact ⟨i, by rw [getF_set hi]; simp, h⟩
    · exact ⟨j, by rw [getF_set hi, h1]; simp, h2⟩
theorem FrI.lt {val : Nat → Value} {a0 a : Act} {listed : Array Bool} (h : FrI ops val a0 listed a) {i : Nat} {o : Oper} (ho : ops[i]? = some o) : i < listed.size := by
  rw [h.size]; exact (Array.getElem?_eq_some_iff.1 ho).1
theorem FrI.put {val : Nat → Value} {a0 a : Act} {listed : Array Bool} (h : FrI ops val a0 listed a) {i d : Nat} {o : Oper} (ho : ops[i]? = some o) (hd : o.dst = some d) : FrI ops val a0 (listed.setIfInBounds i true) (a.put o.dst (val d)) := by
  have hi := h.lt ho
  have hdo : dstOf ops i = some d := by unfold dstOf; rw [ho]; exact hd
  rw [hd]
  have hget : ∀ d', ((a.tmps.setIfInBounds d (val d)).getD d' undef) = if d' = d ∧ d < a.tmps.size then val d else a.tmps.getD d' undef := fun d' => by
    by_cases e : d = d'
    · subst e
      by_cases hs : d < a.tmps.size
      · rw [Array.getD_eq_getD_getElem?, Array.getElem?_setIfInBounds_self_of_lt hs, if_pos ⟨rfl, hs⟩]; rfl
      · rw [if_neg (fun h => hs h.2), Array.setIfInBounds_eq_of_size_le (by omega)]
    · rw [if_neg (fun h => e h.1.symm), Array.getD_eq_getD_getElem?, Array.getElem?_setIfInBounds_ne e, ← Array.getD_eq_getD_getElem?]
  refine ⟨by rw [Array.size_setIfInBounds]; exact h.size, h.defers, by show (a.tmps.setIfInBounds d (val d)).size = _; rw [Array.size_setIfInBounds]; exact h.tsize, fun d' hd' hg => ?_, fun d' hg => ?_⟩
  · show (a.tmps.setIfInBounds d (val d)).getD d' undef = val d'
    rw [hget]
    by_cases e : d' = d
    · subst e; rw [if_pos ⟨rfl, by rw [h.tsize]; exact hd'⟩]
    · rw [if_neg (fun h => e h.1)]
      rcases (got_set hi).1 hg with h1 | h1
      · rw [hdo] at h1; exact absurd (Option.some.inj h1).symm e
      · exact h.yes d' hd' h1
  · show (a.tmps.setIfInBounds d (val d)).getD d' undef = _
    rw [hget, if_neg]
    · exact h.no d' (fun h1 => hg ((got_set hi).2 (Or.inr h1)))
    · rintro ⟨e, _⟩
      exact hg ((got_set hi).2 (Or.inl (by rw [hdo, e])))
theorem FrI.skip {val : Nat → Value} {a0 a : Act} {listed : Array Bool} (h : FrI ops val a0 listed a) {i : Nat} {o : Oper} (ho : ops[i]? = some o) (hd : o.dst = none) (v : Value) : FrI ops val a0 (listed.setIfInBounds i true) (a.put o.dst v) := by
  have hi := h.lt ho
  have hdo : dstOf ops i = none := by unfold dstOf; rw [ho]; exact hd
  rw [hd]
  have e : ∀ d, got ops (listed.setIfInBounds i true) d ↔ got ops listed d := fun d => by
    rw [got_set hi, hdo]; constructor
    · rintro (h | h); cases h; exact h
    · exact Or.inr
  exact ⟨by rw [Array.size_setIfInBounds]; exact h.size, h.defers, h.tsize, fun d hd hg => h.yes d hd ((e d).1 hg), fun d hg => h.no d (fun h1 => hg ((e d).2 h1))⟩
/-- A slot that an operation has filled that this one waits for. -/
theorem FrI.eval {val : Nat → Value} {a0 a : Act} {listed : Array Bool} (h : FrI ops val a0 listed a) {j d : Nat} (hl : listed.getD j false = true) (hd : dstOf ops j = some d) (hs : d < a0.tmps.size) : a.eval (.tmp d) = val d :=
  h.yes d hs ⟨j, hl, hd⟩
/-- A slot that none fills. -/
theorem FrI.eval0 {val : Nat → Value} {a0 a : Act} {listed : Array Bool} (h : FrI ops val a0 listed a) {d : Nat} (hd : (List.range ops.size).all (fun i => dstOf ops i != some d) = true) : a.eval (.tmp d) = a0.eval (.tmp d) := by
  refine h.no d ?_
  rintro ⟨i, h1, h2⟩
  have hlt : i < ops.size := by
    rcases Nat.lt_or_ge i ops.size with h3 | h3
    · exact h3
    · unfold dstOf at h2; rw [Array.getElem?_eq_none h3] at h2; cases h2
  have := List.all_eq_true.1 hd i (List.mem_range.2 hlt)
  rw [h2] at this
  simp at this
/-- All have come up: the frame is known. -/
theorem FrI.fin {val : Nat → Value} {a0 a : Act} {listed : Array Bool} (h : FrI ops val a0 listed a) (hall : ∀ i, i < ops.size → listed.getD i false = true) :
    a = ⟨((List.range a0.tmps.size).map fun d => if (List.range ops.size).any (fun i => dstOf ops i == some d) then val d else a0.tmps.getD d undef).toArray, a0.defers⟩ := by
  obtain ⟨t, ds⟩ := a
  have h1 := h.defers
  simp only at h1
  subst h1
  congr 1
  apply Array.ext
  · simp; exact h.tsize
  · intro d hd1 hd2
    have hd : d < a0.tmps.size := by rw [← h.tsize]; exact hd1
    have e : t[d] = t.getD d undef := by rw [Array.getD_eq_getD_getElem?, Array.getElem?_eq_getElem hd1]; rfl
    rw [e]
    simp only [List.getElem_toArray, List.getElem_map, List.getElem_range]
    by_cases hg : (List.range ops.size).any (fun i => dstOf ops i == some d) = true
    · rw [if_pos hg]
      obtain ⟨i, hi, h2⟩ := List.any_eq_true.1 hg
      exact h.yes d hd ⟨i, hall i (List.mem_range.1 hi), by simpa using h2⟩
    · rw [if_neg hg]
      refine h.no d ?_
      rintro ⟨i, _, h2⟩
      apply hg
      rw [List.any_eq_true]
      have hlt : i < ops.size := by
        rcases Nat.lt_or_ge i ops.size with h3 | h3
        · exact h3
        · unfold dstOf at h2; rw [Array.getElem?_eq_none h3] at h2; cases h2
      exact ⟨i, List.mem_range.2 hlt, by rw [h2]; simp⟩
end
end Go.Proofs.YtpfhnedklihdoaaGreatDoor
namespace Go.Proofs.YtpfhnedklihdoaaGreatDoor
open Go.ChangeShapes Go.WideShapes Go.ChangeAt Go.RowKit
set_option linter.unusedVariables false

theorem fields2 {ops : Array Oper} {i : Nat} {o : Oper} {x : Option Tmp} {y : Op} {z : Option (Nat × Bool)} (h : (ops[i]?).map (fun o => (o.dst, o.op, o.guard)) = some (x, y, z)) (ho : ops[i]? = some o) : o.dst = x ∧ o.op = y ∧ o.guard = z := by
  rw [ho] at h
  simp only [Option.map_some, Option.some.injEq, Prod.mk.injEq] at h
  exact h
/-- Operation i waits for operation j. -/
def waitsB (ops : Array Oper) (i j : Nat) : Bool := ((ops[i]?).map (fun o => o.after.any fun e => decide (e.on = j) && Region.binds .any e)).getD false
theorem waitsB_spec {ops : Array Oper} {i j : Nat} (h : waitsB ops i j = true) : ∃ o, ops[i]? = some o ∧ ∃ e ∈ o.after, Region.binds .any e = true ∧ e.on = j := by
  unfold waitsB at h
  cases ho : ops[i]? with
  | none => rw [ho] at h; cases h
  | some o =>
    rw [ho] at h
    simp only [Option.map_some, Option.getD_some, Array.any_eq_true] at h
    obtain ⟨k, hk, h3⟩ := h
    simp only [Bool.and_eq_true, decide_eq_true_eq] at h3
    exact ⟨o, rfl, o.after[k], Array.getElem_mem hk, h3.2, h3.1⟩
theorem waits2 {ops : Array Oper} {listed : Array Bool} {i j : Nat} {o : Oper} (ho : ops[i]? = some o) (h : waitsB ops i j = true) (h2 : ∀ e ∈ o.after, Region.binds .any e = true → listed.getD e.on false = true) : listed.getD j false = true := by
  obtain ⟨o', ho', e, he, hb, hj⟩ := waitsB_spec h
  rw [ho] at ho'
  injection ho' with ho'
  subst ho'
  rw [← hj]
  exact h2 e he hb
/-- What has come up has not come up ahead of what it waits for. -/
def Clo (ops : Array Oper) (listed : Array Bool) : Prop := ∀ i j, listed.getD i false = true → waitsB ops i j = true → listed.getD j false = true
theorem Clo.set {ops : Array Oper} {listed : Array Bool} {i : Nat} {o : Oper} (h : Clo ops listed) (hi : i < listed.size) (ho : ops[i]? = some o) (h2 : ∀ e ∈ o.after, Region.binds .any e = true → listed.getD e.on false = true) : Clo ops (listed.setIfInBounds i true) := by
  intro k j hk hw
  rw [getF_set hi] at hk ⊢
  by_cases e : k = i
  · subst e
    rw [waits2 ho hw h2]; simp
  · rw [decide_eq_false e, Bool.false_or] at hk
    rw [h k j hk hw]; simp
/-- A way of waitings. -/
def pathB (ops : Array Oper) : List Nat → Bool
  | [] => true
  | [_] => true
  | i :: j :: l => waitsB ops i j && pathB ops (j :: l)
theorem Clo.path {ops : Array Oper} {listed : Array Bool} (h : Clo ops listed) : ∀ (l : List Nat) (i : Nat), pathB ops (i :: l) = true → listed.getD i false = true → ∀ j ∈ l, listed.getD j false = true
  | [], _, _, _, j, hj => by cases hj
  | k :: l, i, hp, hi, j, hj => by
    simp only [pathB, Bool.and_eq_true] at hp
    have hk := h i k hi hp.1
    rcases List.mem_cons.1 hj with e | e
    · subst e; exact hk
    · exact h.path l k hp.2 hk j e
theorem FrI.cong {ops : Array Oper} {val val' : Nat → Value} {a0 a : Act} {listed : Array Bool} (h : FrI ops val a0 listed a) (hv : ∀ d, got ops listed d → val d = val' d) : FrI ops val' a0 listed a :=
  ⟨h.size, h.defers, h.tsize, fun d hd hg => (h.yes d hd hg).trans (hv d hg), h.no⟩
theorem all_ready2 {ops : Array Oper} {md : Region.Mode} {listed : Array Bool} (h : (List.range ops.size).all (fun i => ((ops[i]?).map (fun o => o.after.all fun e => !Region.binds md e || decide (e.on < i))).getD true) = true) (hs : listed.size = ops.size) (hr : Region.ready md ops listed = []) : ∀ i, i < ops.size → listed.getD i false = true := by
  intro i
  induction i using Nat.strongRecOn with
  | _ i ih =>
    intro hi
    cases hl : listed.getD i false with
    | true => rfl
    | false =>
      exfalso
      have hlt : i < listed.size := by rw [hs]; exact hi
      have hl2 : listed.getD i true = false := by
        rw [Array.getD_eq_getD_getElem?, Array.getElem?_eq_getElem hlt] at hl ⊢; exact hl
      have ho : ops[i]? = some ops[i] := Array.getElem?_eq_getElem hi
      have hm : i ∈ Region.ready md ops listed := mem_ready.2 ⟨hl2, ops[i], ho, fun e he hb => by
        have h1 := List.all_eq_true.1 h i (List.mem_range.2 hi)
        rw [ho] at h1
        simp only [Option.map_some, Option.getD_some] at h1
        have h2 := (Array.all_eq_true_iff_forall_mem.1 h1) e he
        rw [hb] at h2
        simp at h2
        exact ih e.on h2 (by omega)⟩
      rw [hr] at hm
      cases hm
/-- The values, laid one behind the other. -/
def putsL (val : Nat → Value) : List Oper → Act → Act
  | [], a => a
  | o :: l, a => putsL val l (match o.dst with | some d => a.put (some d) (val d) | none => a)
theorem put_get (a : Act) (d d' : Nat) (v : Value) : (a.put (some d) v).tmps.getD d' undef = if d' = d ∧ d < a.tmps.size then v else a.tmps.getD d' undef := by
  show (a.tmps.setIfInBounds d v).getD d' undef = _
  by_cases e : d = d'
  · subst e
    by_cases hs : d < a.tmps.size
    · rw [Array.getD_eq_getD_getElem?, Array.getElem?_setIfInBounds_self_of_lt hs, if_pos ⟨rfl, hs⟩]; rfl
    · rw [if_neg (fun h => hs h.2), Array.setIfInBounds_eq_of_size_le (by omega)]
  · rw [if_neg (fun h => e h.1.symm), Array.getD_eq_getD_getElem?, Array.getElem?_setIfInBounds_ne e, ← Array.getD_eq_getD_getElem?]
theorem put_size (a : Act) (d : Nat) (v : Value) : (a.put (some d) v).tmps.size = a.tmps.size := by
  show (a.tmps.setIfInBounds d v).size = _
  simp
theorem putsL_facts (val : Nat → Value) : ∀ (l : List Oper) (a : Act), (putsL val l a).defers = a.defers ∧ (putsL val l a).tmps.size = a.tmps.size ∧
    ∀ d, d < a.tmps.size → (putsL val l a).tmps.getD d undef = if l.any (fun o => o.dst == some d) then val d else a.tmps.getD d undef
  | [], a => ⟨rfl, rfl, fun d _ => by simp [putsL]⟩
  | o :: l, a => by
    cases hd : o.dst with
    | none =>
      have e : putsL val (o :: l) a = putsL val l a := by simp only [putsL, hd]
      rw [e]
      obtain ⟨h1, h2, h3⟩ := putsL_facts val l a
      refine ⟨h1, h2, fun d hlt => ?_⟩
      rw [h3 d hlt]
      simp [hd]
    | some t =>
      have e : putsL val (o :: l) a = putsL val l (a.put (some t) (val t)) := by simp only [putsL, hd]
      rw [e]
      obtain ⟨h1, h2, h3⟩ := putsL_facts val l (a.put (some t) (val t))
      refine ⟨h1.trans rfl, h2.trans (put_size a t _), fun d hlt => ?_⟩
      rw [h3 d (by rw [put_size]; exact hlt), put_get]
      by_cases ht : d = t
      · subst ht
        simp [hd, hlt]
      · have ht2 : ¬ t = d := fun h => ht h.symm
        simp [hd, ht, ht2]
theorem FrI.puts {ops : Array Oper} {val : Nat → Value} {a0 a : Act} {listed : Array Bool} (h : FrI ops val a0 listed a) (hall : ∀ i, i < ops.size → listed.getD i false = true) : a = putsL val ops.toList a0 := by
  rw [h.fin hall]
  obtain ⟨h1, h2, h3⟩ := putsL_facts val ops.toList a0
  generalize putsL val ops.toList a0 = b at *
  obtain ⟨t, ds⟩ := b
  simp only at h1 h2 h3
  subst h1
  congr 1
  apply Array.ext
  · simp [h2]
  · intro d hd1 hd2
    have hd : d < a0.tmps.size := by simpa using hd1
    have e : t[d] = t.getD d undef := by rw [Array.getD_eq_getD_getElem?, Array.getElem?_eq_getElem hd2]; rfl
    rw [e, h3 d hd]
    simp only [List.getElem_toArray, List.getElem_map, List.getElem_range]
    have hcond : (List.range ops.size).any (fun i => dstOf ops i == some d) = ops.toList.any (fun o => o.dst == some d) := by
      rw [Bool.eq_iff_iff, List.any_eq_true, List.any_eq_true]
      constructor
      · rintro ⟨i, hi, h5⟩
        have hi := List.mem_range.1 hi
        refine ⟨ops[i], by simp, ?_⟩
        unfold dstOf at h5
        rw [Array.getElem?_eq_getElem hi] at h5
        exact h5
      · rintro ⟨o, ho, h5⟩
        obtain ⟨i, hi, rfl⟩ := List.getElem_of_mem ho
        refine ⟨i, List.mem_range.2 (by simpa using hi), ?_⟩
        unfold dstOf
        rw [Array.getElem?_eq_getElem (by simpa using hi)]
        simpa using h5
    rw [hcond]

/-! ### The acting operations, one behind the other -/
/-- How many of the acting ones have come up. -/
def phase (listed : Array Bool) : List Nat → Nat
  | [] => 0
  | i :: l => if listed.getD i false = true then phase listed l + 1 else 0
theorem phase_ne {listed : Array Bool} {i : Nat} (hi : i < listed.size) : ∀ (l : List Nat), i ∉ l → phase (listed.setIfInBounds i true) l = phase listed l
  | [], _ => rfl
  | k :: l, h => by
    have hk : k ≠ i := fun e => h (by rw [e]; exact List.mem_cons_self)
    unfold phase
    rw [getF_set hi, decide_eq_false hk, Bool.false_or, phase_ne hi l (fun e => h (List.mem_cons_of_mem _ e))]
/-- At a place of the row: how many have come up. -/
theorem phase_at {listed : Array Bool} : ∀ (l : List Nat) (k : Nat) (i : Nat), l[k]? = some i → listed.getD i false = false → phase listed l ≤ k
  | [], _, _, h, _ => by simp at h
  | j :: l, 0, i, h, hl => by
    simp at h
    subst h
    unfold phase
    rw [hl]
    simp
  | j :: l, k + 1, i, h, hl => by
    have h' : l[k]? = some i := by simpa using h
    have := phase_at l k i h' hl
    unfold phase
    split <;> omega
theorem phase_full {listed : Array Bool} : ∀ (l : List Nat), (∀ i ∈ l, listed.getD i false = true) → phase listed l = l.length
  | [], _ => rfl
  | j :: l, h => by
    unfold phase
    rw [h j List.mem_cons_self, phase_full l (fun i hi => h i (List.mem_cons_of_mem _ hi))]
    simp
/-- The acting operation number k comes up when those ahead have. -/
theorem phase_eq {listed : Array Bool} : ∀ (l : List Nat) (k : Nat) (i : Nat), l[k]? = some i → listed.getD i false = false → (∀ j, j < k → ∀ x, l[j]? = some x → listed.getD x false = true) → phase listed l = k
  | [], _, _, h, _, _ => by simp at h
  | j :: l, 0, i, h, hl, _ => by
    simp at h
    subst h
    unfold phase
    rw [hl]
    simp
  | j :: l, k + 1, i, h, hl, ha => by
    have h' : l[k]? = some i := by simpa using h
    have hj := ha 0 (by omega) j rfl
    unfold phase
    rw [hj, phase_eq l k i h' hl (fun m hm x hx => ha (m + 1) (by omega) x (by simpa using hx))]
    simp
theorem phase_step {listed : Array Bool} {i : Nat} (hi : i < listed.size) : ∀ (l : List Nat) (k : Nat), l.Nodup → l[k]? = some i → listed.getD i false = false → (∀ j, j < k → ∀ x, l[j]? = some x → listed.getD x false = true) → (∀ j x, k < j → l[j]? = some x → listed.getD x false = false) →
    phase (listed.setIfInBounds i true) l = k + 1
  | [], _, _, h, _, _, _ => by simp at h
  | j :: l, 0, hnd, h, hl, _, hb => by
    simp at h
    subst h
    unfold phase
    rw [getF_set hi]
    have : phase (listed.setIfInBounds j true) l = 0 := by
      rw [phase_ne hi l (List.nodup_cons.1 hnd).1]
      cases l with
      | nil => rfl
      | cons x l =>
        unfold phase
        rw [hb 1 x (by omega) rfl]
        simp
    rw [this]
    simp
  | j :: l, k + 1, hnd, h, hl, ha, hb => by
    have h' : l[k]? = some i := by simpa using h
    have hj := ha 0 (by omega) j rfl
    have := phase_step hi l k (List.nodup_cons.1 hnd).2 h' hl (fun m hm x hx => ha (m + 1) (by omega) x (by simpa using hx)) (fun m x hm hx => hb (m + 1) x (by omega) (by simpa using hx))
    unfold phase
    rw [getF_set hi, hj, this]
    simp
/-- The values: those of the acting ones are letters. -/
def valG (av : Nat → Option Nat) (val0 : Nat → Value) (γ : Nat → Value) (d : Nat) : Value := match av d with | some k => γ k | none => val0 d
def updG (γ : Nat → Value) (k : Nat) (u : Value) : Nat → Value := fun j => if j = k then u else γ j
section
variable {ops : Array Oper} {acts : List Nat} {av : Nat → Option Nat} {val0 : Nat → Value} {Wd : Nat → (Nat → Value) → World → Prop} {a0 : Act} {Q : Exit → Act → World → Prop}
/-- What every operation keeps. -/
def InvG (ops : Array Oper) (acts : List Nat) (av : Nat → Option Nat) (val0 : Nat → Value) (Wd : Nat → (Nat → Value) → World → Prop) (a0 : Act) (listed : Array Bool) (a : Act) (w : World) : Prop :=
  ∃ γ, FrI ops (valG av val0 γ) a0 listed a ∧ Clo ops listed ∧ Wd (phase listed acts) γ w
/-- What is asked of operation i. -/
def StepG (ops : Array Oper) (acts : List Nat) (av : Nat → Option Nat) (val0 : Nat → Value) (Wd : Nat → (Nat → Value) → World → Prop) (a0 : Act) (Q : Exit → Act → World → Prop) (i : Nat) : Prop :=
  ∀ γ listed a w o, FrI ops (valG av val0 γ) a0 listed a → Clo ops listed → Wd (phase listed acts) γ w → listed.getD i true = false → ops[i]? = some o → (∀ e ∈ o.after, Region.binds .any e = true → listed.getD e.on false = true) →
    wpOp Tryz.prog ops Q i (fun a' w' => InvG ops acts av val0 Wd a0 (listed.setIfInBounds i true) a' w') a w
theorem unl {listed : Array Bool} {i : Nat} (hi : i < listed.size) (h1 : listed.getD i true = false) : listed.getD i false = false := by
  rw [Array.getD_eq_getD_getElem?, Array.getElem?_eq_getElem hi] at h1 ⊢; exact h1
/-- An operation that leaves the world alone. -/
theorem st_pureG {γ : Nat → Value} {listed : Array Bool} {a : Act} {w : World} {i d : Nat} {o : Oper} (hF : FrI ops (valG av val0 γ) a0 listed a) (hC : Clo ops listed) (hW : Wd (phase listed acts) γ w) (ho : ops[i]? = some o) (h2 : ∀ e ∈ o.after, Region.binds .any e = true → listed.getD e.on false = true)
    (hna : i ∉ acts) (hd : o.dst = some d) (hg : o.guard = none) (hav : av d = none) (hrun : (execOp a.eval o).run Tryz.prog w = .ok (.value (val0 d)) w) : wpOp Tryz.prog ops Q i (fun a' w' => InvG ops acts av val0 Wd a0 (listed.setIfInBounds i true) a' w') a w := by
  have hi := hF.lt ho
  unfold wpOp
  rw [ho]
  have hw : Region.wanted o (yielded ops a.tmps) = true := by unfold Region.wanted; rw [hg]
  simp only [hw, if_true]
  refine Or.inl ?_
  unfold Oper.wp
  rw [hrun]
  have e : valG av val0 γ d = val0 d := by unfold valG; rw [hav]
  refine ⟨γ, ?_, hC.set hi ho h2, by rw [phase_ne hi acts hna]; exact hW⟩
  have := hF.put ho hd
  rw [e] at this
  exact this
/-- A call that makes memory at most. -/
theorem st_callG {γ : Nat → Value} {listed : Array Bool} {a : Act} {w : World} {i d : Nat} {o : Oper} {f : FuncId} {args : Array Value} (hF : FrI ops (valG av val0 γ) a0 listed a) (hC : Clo ops listed) (hW : Wd (phase listed acts) γ w) (ho : ops[i]? = some o) (h2 : ∀ e ∈ o.after, Region.binds .any e = true → listed.getD e.on false = true)
    (hna : i ∉ acts) (hd : o.dst = some d) (hg : o.guard = none) (hav : av d = none) (hrun : (execOp a.eval o).run Tryz.prog w = .ok (.enter f args) w) (hc : Calls Tryz.prog f args w fun e w' => e = .returned (val0 d) ∧ Kp w w') (hk : ∀ w', Kp w w' → Wd (phase listed acts) γ w') :
    wpOp Tryz.prog ops Q i (fun a' w' => InvG ops acts av val0 Wd a0 (listed.setIfInBounds i true) a' w') a w := by
  have hi := hF.lt ho
  unfold wpOp
  rw [ho]
  have hw : Region.wanted o (yielded ops a.tmps) = true := by unfold Region.wanted; rw [hg]
  simp only [hw, if_true]
  refine Or.inl ?_
  unfold Oper.wp
  rw [hrun]
  have e : valG av val0 γ d = val0 d := by unfold valG; rw [hav]
  refine Calls.mono hc ?_
  rintro e' w' ⟨rfl, hkk⟩
  refine ⟨γ, ?_, hC.set hi ho h2, by rw [phase_ne hi acts hna]; exact hk w' hkk⟩
  have := hF.put ho hd
  rw [e] at this
  exact this
/-- Each acting one waits for the one ahead. -/
def chainG (ops : Array Oper) (acts : List Nat) : Bool := (List.range (acts.length - 1)).all fun k => waitsB ops (acts.getD (k + 1) 0) (acts.getD k 0)
theorem chainG_at (h : chainG ops acts = true) {k : Nat} (hk : k + 1 < acts.length) : waitsB ops (acts.getD (k + 1) 0) (acts.getD k 0) = true :=
  List.all_eq_true.1 h k (List.mem_range.2 (by omega))
theorem below_listed {listed : Array Bool} (h : chainG ops acts = true) (hC : Clo ops listed) : ∀ (k : Nat), k < acts.length → listed.getD (acts.getD k 0) false = true → ∀ j, j ≤ k → listed.getD (acts.getD j 0) false = true
  | 0, _, hl, j, hj => by
    have e : j = 0 := by omega
    rw [e]
    exact hl
  | k + 1, hk, hl, j, hj => by
    by_cases e : j = k + 1
    · subst e; exact hl
    · exact below_listed h hC k (by omega) (hC _ _ hl (chainG_at h hk)) j (by omega)
/-- The acting operation number k. -/
theorem st_actG {γ : Nat → Value} {listed : Array Bool} {a : Act} {w : World} {i k : Nat} {o : Oper} (hch : chainG ops acts = true) (hnd : acts.Nodup) (hk : acts[k]? = some i) (hF : FrI ops (valG av val0 γ) a0 listed a) (hC : Clo ops listed) (hW : Wd (phase listed acts) γ w) (h1 : listed.getD i true = false) (ho : ops[i]? = some o) (h2 : ∀ e ∈ o.after, Region.binds .any e = true → listed.getD e.on false = true)
    (hd : (o.dst = none) ∨ ∃ d, o.dst = some d ∧ av d = some k) (hinj : ∀ d, got ops listed d → av d ≠ some k) (hg : o.guard = none)
    (hrun : Wd k γ w → ∀ K : Act → World → Prop, (∀ u w', Wd (k + 1) (updG γ k u) w' → K (a.put o.dst u) w') → o.wp Tryz.prog a w K Q) :
    wpOp Tryz.prog ops Q i (fun a' w' => InvG ops acts av val0 Wd a0 (listed.setIfInBounds i true) a' w') a w := by
  have hi := hF.lt ho
  have hu := unl hi h1
  have hkl : k < acts.length := (List.getElem?_eq_some_iff.1 hk).1
  have hgk : acts.getD k 0 = i := by rw [List.getD_eq_getElem?_getD, hk]; rfl
  have hat : ∀ j x, acts[j]? = some x → acts.getD j 0 = x := fun j x hx => by rw [List.getD_eq_getElem?_getD, hx]; rfl
  have hbelow : ∀ j, j < k → ∀ x, acts[j]? = some x → listed.getD x false = true := fun j hj x hx => by
    have hl : listed.getD (acts.getD (k - 1) 0) false = true := by
      have := chainG_at hch (k := k - 1) (by omega)
      rw [show k - 1 + 1 = k by omega, hgk] at this
      exact waits2 ho this h2
    have := below_listed hch hC (k - 1) (by omega) hl j (by omega)
    rw [hat j x hx] at this
    exact this
  have habove : ∀ j x, k < j → acts[j]? = some x → listed.getD x false = false := fun j x hj hx => by
    cases hl : listed.getD x false with
    | false => rfl
    | true =>
      have hjl : j < acts.length := (List.getElem?_eq_some_iff.1 hx).1
      have := below_listed hch hC j hjl (by rw [hat j x hx]; exact hl) k (by omega)
      rw [hgk, hu] at this
      cases this
  have hph : phase listed acts = k := phase_eq acts k i hk hu hbelow
  have hph2 : phase (listed.setIfInBounds i true) acts = k + 1 := phase_step hi acts k hnd hk hu hbelow habove
  rw [hph] at hW
  unfold wpOp
  rw [ho]
  have hw : Region.wanted o (yielded ops a.tmps) = true := by unfold Region.wanted; rw [hg]
  simp only [hw, if_true]
  refine Or.inl (hrun hW _ ?_)
  intro u w' hW'
  have hF2 : FrI ops (valG av val0 (updG γ k u)) a0 listed a := hF.cong (fun d hgd => by
    unfold valG
    cases hav : av d with
    | none => rfl
    | some j =>
      have : j ≠ k := fun e => hinj d hgd (by rw [hav, e])
      simp [updG, this])
  refine ⟨updG γ k u, ?_, hC.set hi ho h2, by rw [hph2]; exact hW'⟩
  rcases hd with hd | ⟨d, hd, hav⟩
  · exact hF2.skip ho hd u
  · have := hF2.put ho hd
    have e : valG av val0 (updG γ k u) d = u := by unfold valG; rw [hav]; simp [updG]
    rw [e] at this
    exact this
/-- The region, whatever order comes up. -/
theorem reg_act {id : Nat} {w : World} (hm : Tryz.prog.follows .mixedOrders = true) (hup : (List.range ops.size).all (fun i => ((ops[i]?).map (fun o => o.after.all fun e => !Region.binds .any e || decide (e.on < i))).getD true) = true)
    (hac : ∀ i ∈ acts, i < ops.size) (hstep : ∀ i, i < ops.size → StepG ops acts av val0 Wd a0 Q i) (γ0 : Nat → Value) (h0 : Wd 0 γ0 w.drew) (hend : ∀ γ w', Wd acts.length γ w' → Q .normal (putsL (valG av val0 γ) ops.toList a0) w') : (Code.region id ops true).wp Tryz.prog Q a0 w := by
  refine wp_region_any hm ?_
  refine wpAny_inv (InvG ops acts av val0 Wd a0) (fun listed a w i o hI h1 ho h2 => ?_) (fun listed a w hI hr => ?_) _ _ _ _ ?_ ?_
  · obtain ⟨γ, hF, hC, hW⟩ := hI
    exact hstep i (Array.getElem?_eq_some_iff.1 ho).1 γ listed a w o hF hC hW h1 ho h2
  · obtain ⟨γ, hF, hC, hW⟩ := hI
    have hall := all_ready2 hup hF.size hr
    rw [phase_full acts (fun i hi => hall i (hac i hi))] at hW
    rw [hF.puts hall]
    exact hend γ w hW
  · have hno : ∀ j, (Array.replicate ops.size false).getD j false = false := fun j => by
      rw [Array.getD_eq_getD_getElem?, Array.getElem?_replicate]; split <;> rfl
    refine ⟨γ0, ⟨by simp, rfl, rfl, fun d _ hg => ?_, fun d _ => rfl⟩, fun i j h => ?_, ?_⟩
    · obtain ⟨i, h1, _⟩ := hg; rw [hno] at h1; cases h1
    · rw [hno] at h; cases h
    · have : phase (Array.replicate ops.size false) acts = 0 := by
        cases acts with
        | nil => rfl
        | cons i l => unfold phase; rw [hno]; simp
      rw [this]
      exact h0
  · unfold left; exact Nat.le_trans (List.length_filter_le _ _) (by simp)
/-- A slot that an operation has filled that this one waits for. -/
theorem slotG {γ : Nat → Value} {listed : Array Bool} {a : Act} {i j d : Nat} {o : Oper} (hF : FrI ops (valG av val0 γ) a0 listed a) (ho : ops[i]? = some o) (h2 : ∀ e ∈ o.after, Region.binds .any e = true → listed.getD e.on false = true) (hw : waitsB ops i j = true) (hd : dstOf ops j = some d) (hs : d < a0.tmps.size) : a.eval (.tmp d) = valG av val0 γ d :=
  hF.eval (waits2 ho hw h2) hd hs
/-- An operation that comes up ahead of the acting one number m. -/
theorem phase_leG {listed : Array Bool} {i m x : Nat} (hC : Clo ops listed) (hu : listed.getD i false = false) (hm : acts[m]? = some x) (p : List Nat) (hp : pathB ops (x :: p) = true) (hi : i ∈ p) : phase listed acts ≤ m := by
  refine phase_at acts m x hm ?_
  cases hl : listed.getD x false with
  | false => rfl
  | true =>
    have := hC.path p x hp hl i hi
    rw [hu] at this
    cases this
end
end Go.Proofs.YtpfhnedklihdoaaGreatDoor
