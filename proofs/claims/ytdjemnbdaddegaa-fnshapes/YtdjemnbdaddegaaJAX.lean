/-
  MoveLines of the program; each theorem names its conditions.
-/
import Derived.Test.YtdjemnbdaddegaaJAW
import Derived.Test.YtdjemnbdaddegaaJAG
import Derived.Test.YtdjemnbdaddegaaJAJ
import Derived.Test.YtdjemnbdaddegaaJAO
import Derived.Deep.QuietTactic
import Derived.BigQuiet
import Derived.Test.YtdjemnbdaddegaaJAA
namespace Go.Proofs.Ytdjemnbdaddegaa
open Go.ChangeShapes Go.WideShapes Go.ChangeAt Go.RowKit
set_option linter.unusedVariables false
def mvLD (A : Aff) (x : LD) : LD := ⟨x.pts.map (mvP A), x.closed⟩
def mvlB (A : Aff) (l : List LD) : Bool := l.all fun x => mvsB A x.pts
theorem mapL_step (A : Aff) (l : List LD) (k : Nat) (h : k < l.length) : (l.take (k + 1)).map (mvLD A) = (l.take k).map (mvLD A) ++ [mvLD A (lnAt l k)] := by
 have e : lnAt l k = l[k] := by simp [lnAt, h]
 rw [List.take_succ_eq_append_getElem h, List.map_append, e]
 rfl
set_option maxRecDepth 100000 in
set_option maxHeartbeats 4000000 in
theorem ieachL (w : World) (a : Option Addr) (c : Nat) (l : List LD) (A : Aff) (hg : A.ok = true) (hl : l.length ≤ 1048576) (hm : ∀ i, i < l.length → (lnAt l i).pts.length ≤ 600) (hr : Lines w a l) :
  Calls Try.prog 52 #[.slice a l.length c, .func (.func 53) #[A.v] #[]] w fun e w' => ∃ v it, e = .returned (.tuple #[v, .bool (mvlB A l)]) ∧ OwnLn w' w.heap.size v it ∧ it.map (·.2) = (if mvlB A l = true then l.map (mvLD A) else []) ∧ Nw w w' := by
 obtain ⟨V, hV⟩ : ∃ V, mvlB A l = V := ⟨_, rfl⟩
 have HV : Hid (mvlB A l = V) := hV
 rw [hV]
 obtain ⟨M, hM⟩ : ∃ M, (if V = true then l.map (mvLD A) else []) = M := ⟨_, rfl⟩
 have HM : Hid ((if V = true then l.map (mvLD A) else []) = M) := hM
 rw [hM]
 clear hV hM
 have HC : Hid (∀ (w : World) (pa : Option Addr) (pc : Nat) (ps : List Pnt) (cl : Bool) (hl : ps.length ≤ 600) (hr : Pts w pa ps), _) := fun w pa pc ps cl hl hr => imovedL w A pa pc ps cl hg hl hr
 have HR : Hid (Lines w a l) := hr
 have H6 : Hid (∀ i, i < l.length → (lnAt l i).pts.length ≤ 600) := hm
 obtain ⟨F, hF⟩ : ∃ F, A.v = F := ⟨_, rfl⟩
 rw [hF] at HC ⊢
 clear hg hr hF hm
 go_enter Try.func52, Try.ntmps52
 go_wp2
 go_loopw [13] (fun i wr => ∃ k : Nat, k ≤ l.length ∧ i = .int .i64 (k : Int) ∧ (∀ m, m < k → mvsB A (lnAt l m).pts = true) ∧ (∃ it : Its, LVL w.heap.size wr it ∧ it.map (·.2) = (l.take k).map (mvLD A)) ∧ Nw w wr) (fun i _ => l.length - (intOf i).toNat)
 case atStart => exact ⟨0, Nat.zero_le _, rfl, fun m hm => absurd hm (by omega), ⟨[], LVL.new w 86, rfl⟩, (Below.refl _ _).alloc (Nat.le_refl _) _⟩
 case round =>
  obtain ⟨k, hk, rfl, ha, ⟨it, hlv, hit⟩, hw⟩ := hrel
  have HA : Hid _ := ha
  have HL : Hid (LVL w.heap.size wr it) := hlv
  have HIT : Hid (it.map (·.2) = (l.take k).map (mvLD A)) := hit
  have HW : Hid (Nw w wr) := hw
  clear ha hlv hw hit
  by_cases hlt : k < l.length
  ·rcases Lines.nw HR.out HW.out with h | ⟨b, off, rfl, hb, hc⟩
   ·rw [h] at hlt; simp at hlt
   obtain ⟨⟨pa, pc, p0, pp⟩, p1⟩ := hc k hlt
   clear hc
   have HE : Hid ((l.take (k + 1)).map (mvLD A) = (l.take k).map (mvLD A) ++ [mvLD A (lnAt l k)]) := mapL_step A l k hlt
   have HLn : Hid (it.length + 1 ≤ 10000000) := by
    show _ ≤ _
    have := congrArg List.length HIT.out
    simp at this
    omega
   have HB : Hid (mvsB A (lnAt l k).pts = false → V = false) := fun h => by
    rw [← HV.out]; exact all_false _ noLD l k hlt h
   have a1 : Nw wr (wr.alloc (.cells #[.slice pa (lnAt l k).pts.length pc, .bool (lnAt l k).closed] 55)) := (Below.refl _ _).alloc (Nat.le_refl _) _
   have hcc := HC.out (wr.alloc (.cells #[.slice pa (lnAt l k).pts.length pc, .bool (lnAt l k).closed] 55)) pa pc (lnAt l k).pts (lnAt l k).closed (H6.out k hlt) (pp.nw a1)
   have HC2 : Hid _ := hcc
   have A1 : Hid _ := a1
   have HQ : Hid (mvLD A (lnAt l k) = ⟨(lnAt l k).pts.map (mvP A), (lnAt l k).closed⟩) := rfl
   clear hcc a1 pp
   obtain ⟨x, hx⟩ : ∃ x, lnAt l k = x := ⟨_, rfl⟩
   have HXX : Hid (lnAt l k = x) := hx
   rw [hx] at HC2 A1 HQ HB p0 p1 HE
   clear hx
   obtain ⟨ps, cl⟩ := x
   simp only at HC2 A1 HQ HB p0 p1
   cases ht : mvsB A ps with
   | false =>
    rw [ht] at HC2
    have HF : Hid (V = false) := HB.out ht
    clear ht
    generalize ps.length = n at *
    go_wp2_with fail
    refine Calls.mono HC2.out ?_
    rintro e w1 ⟨v, rfl, ho, k1⟩
    obtain ⟨va, vn, vc, rfl⟩ := OwnQ.slice ho
    have N1 : Hid (Nw w w1) := Nw.trans HW.out (Nw.trans A1.out k1)
    clear k1 ho
    go_wp2
    refine bodyPost_ret (v := .tuple #[.slice none 0 0, .bool false]) (by simp [results, Try.results52, go_sem]) rfl ⟨_, [], by rw [HF.out], OwnLn.nil _ _, ?_, ?_⟩
    ·rw [← HM.out, HF.out]; rfl
    ·exact Below.alloc N1.out (Below.size N1.out) _
   | true =>
    rw [ht, if_pos rfl] at HC2
    have HT : Hid (mvsB A ps = true) := ht
    clear ht
    obtain ⟨n, hn⟩ : ∃ n, ps.length = n := ⟨_, rfl⟩
    rw [hn] at HC2 p0 A1
    clear hn
    go_wp2_with fail
    refine Calls.mono HC2.out ?_
    rintro e w1 ⟨v, rfl, ho, k1⟩
    obtain ⟨va, vn, vc, rfl⟩ := OwnQ.slice ho
    have n1 : Nw wr w1 := Nw.trans A1.out k1
    have n2 : Nw w1 (w1.alloc (.cells #[.slice va vn vc, .bool cl] 55)) := (Below.refl _ _).alloc (Nat.le_refl _) _
    have had := iaddL wr (w1.alloc (.cells #[.slice va vn vc, .bool cl] 55)) w.heap.size it (.slice va vn vc) ⟨ps.map (mvP A), cl⟩ 55 HL.out (Nw.trans n1 n2) (OwnQ.base (OwnQ.nw ho n2) (Below.size A1.out)) HLn.out
    rw [World.size_alloc] at had
    simp only at had
    have HAD : Hid _ := had
    clear had n1 n2 k1 ho
    go_wp2_with fail
    refine Calls.mono HAD.out ?_
    rintro e w2 ⟨rfl, l2, k2⟩
    have L2 : Hid (LVL w.heap.size w2 (it ++ [(.slice va vn vc, ⟨ps.map (mvP A), cl⟩)])) := l2
    have N2 : Hid (Nw w w2) := Below.trans HW.out k2
    clear l2 k2
    go_wp2
    go_roundw
    case rel =>
     refine ⟨k + 1, by omega, by go_num, fun m hm => ?_, ⟨_, L2.out, ?_⟩, N2.out⟩
     ·rcases Nat.lt_succ_iff_lt_or_eq.1 hm with h | h
      ·exact HA.out m h
      ·rw [h, HXX.out]; exact HT.out
     ·rw [HE.out, List.map_append, HIT.out, HQ.out]; rfl
    case measure => simp [intOf]; omega
  ·have HT : Hid (V = true) := by
    show _ = _
    rw [← HV.out]; exact all_true _ noLD l (fun m hm => HA.out m (by omega))
   have hk2 : k = l.length := by omega
   subst hk2
   rw [List.take_length] at HIT
   obtain ⟨v, hv, _, hown⟩ := HL.out
   obtain ⟨va, vn, vc, rfl⟩ := OwnQ.slice hown.own
   have HO : Hid _ := OwnLn.base hown (Nat.le_succ _)
   clear hown
   go_wp2
   refine bodyPost_ret (v := .tuple #[.slice va vn vc, .bool true]) (by simp [results, Try.results52, go_sem]) rfl ⟨_, it, by rw [HT.out], HO.out, ?_, HW.out⟩
   rw [← HM.out, HT.out]; exact HIT.out
def mvAll (A : Aff) (l : List LD) : Bool := A.ok && decide (manyL l ≤ 600) && mvlB A l
def mvR (A : Aff) (l : List LD) : List LD := if mvAll A l = true then l.map (mvLD A) else []
set_option maxRecDepth 100000 in
set_option maxHeartbeats 4000000 in
theorem imove (w : World) (A : Aff) (a : Option Addr) (c : Nat) (l : List LD) (hl : l.length ≤ 1048576) (hm : manyL l ≤ 1048576) (hr : Lines w a l) :
  Calls Try.prog 13 #[A.v, .slice a l.length c] w fun e w' => ∃ v it, e = .returned (.tuple #[v, .bool (mvAll A l)]) ∧ OwnLn w' w.heap.size v it ∧ it.map (·.2) = mvR A l ∧ Nw w w' := by
 obtain ⟨V, hV⟩ : ∃ V, mvAll A l = V := ⟨_, rfl⟩
 obtain ⟨M, hM⟩ : ∃ M, mvR A l = M := ⟨_, rfl⟩
 have HM : Hid ((if V = true then l.map (mvLD A) else []) = M) := by show _ = _; rw [← hM, ← hV]; rfl
 have HV : Hid ((A.ok && decide (manyL l ≤ 600) && mvlB A l) = V) := hV
 rw [hV, hM]
 clear hV hM
 have HG : Hid _ := fun w => igoodAff w A.a A.b A.c A.d A.e A.f
 have HP : Hid (∀ w : World, Lines w a l → _) := fun w h => imany w a c l hl hm h
 have HR : Hid (Lines w a l) := hr
 have e1 : gA A.a A.b A.c A.d A.e A.f = A.ok := rfl
 rw [e1] at HG
 clear e1 hr
 cases hg : A.ok with
 | false =>
  rw [hg] at HG
  have HF : Hid (V = false) := by show _ = _; rw [← HV.out, hg]; rfl
  clear hg
  obtain ⟨a1, b1, c1, d1, e1, f1⟩ := A
  unfold Aff.v
  simp only at HG ⊢
  go_enter Try.func13, Try.ntmps13
  go_wp2_with fail
  refine Calls.mono (HG.out _) ?_
  rintro e w1 ⟨rfl, k1⟩
  have K1 : Hid (Nw w w1) := nw_box k1.nw
  clear k1
  go_wp2
  refine bodyPost_ret (v := .tuple #[.slice none 0 0, .bool false]) (by simp [results, Try.results13, go_sem]) rfl ⟨_, [], by rw [HF.out], OwnLn.nil _ _, ?_, K1.out⟩
  rw [← HM.out, HF.out]; rfl
 | true =>
  rw [hg] at HG
  have HOK : Hid (A.ok = true) := hg
  clear hg
  by_cases h6 : manyL l ≤ 600
  ·have hd : decide (600 < (manyL l : Int)) = false := decide_eq_false (by omega)
   have HV2 : Hid (mvlB A l = V) := by show _ = _; rw [← HV.out, HOK.out]; simp [h6]
   have HE : Hid (∀ w : World, Lines w a l → _) := fun w h => ieachL w a c l A HOK.out hl (fun i hi => Nat.le_trans (manyL_at l i hi) h6) h
   rw [HV2.out, HM.out] at HE
   clear HV HV2 HOK
   obtain ⟨a1, b1, c1, d1, e1, f1⟩ := A
   unfold Aff.v at HE ⊢
   simp only at HG HE ⊢
   generalize hmm : manyL l = m at *
   go_enter Try.func13, Try.ntmps13
   go_wp2_with fail
   refine Calls.mono (HG.out _) ?_
   rintro e w1 ⟨rfl, k1⟩
   have bcs : ∀ o, w1.cell? ⟨w.heap.size, o, none⟩ = (#[.int .i64 a1, .int .i64 b1, .int .i64 c1, .int .i64 d1, .int .i64 e1, .int .i64 f1] : Array Value)[o]? := fun o => (k1.cells.1 _ _ (by simp)).trans (World.cell?_alloc_at _ _ _ _ rfl)
   have q0 := bcs 0
   have q1 := bcs 1
   have q2 := bcs 2
   have q3 := bcs 3
   have q4 := bcs 4
   have q5 := bcs 5
   have K1 : Hid (Nw w w1) := nw_box k1.nw
   have hs1 : Hid (w.heap.size < w1.heap.size) := by show _ < _; have := k1.size; simp at this; omega
   clear k1 bcs
   go_wp2_with fail
   refine Calls.mono (HP.out _ (Lines.nw HR.out K1.out)) ?_
   rintro e w2 ⟨rfl, k2⟩
   have p0 := kp_at k2 q0
   have p1 := kp_at k2 q1
   have p2 := kp_at k2 q2
   have p3 := kp_at k2 q3
   have p4 := kp_at k2 q4
   have p5 := kp_at k2 q5
   have K2 : Hid (Nw w w2) := Nw.trans K1.out k2.nw
   clear k2 q0 q1 q2 q3 q4 q5
   go_wp2_with fail
   refine Calls.mono (HE.out _ (Lines.nw HR.out K2.out)) ?_
   rintro e w3 ⟨v, it, rfl, ho, hi, k3⟩
   have HO : Hid (OwnLn w3 w.heap.size v it) := OwnLn.base ho (Below.size K2.out)
   have HI : Hid _ := hi
   have K3 : Hid (Nw w w3) := Nw.trans K2.out k3
   clear ho hi k3
   go_wp2
   exact bodyPost_ret (v := .tuple #[v, .bool V]) (by simp [results, Try.results13, go_sem]) rfl ⟨v, it, rfl, HO.out, HI.out, K3.out⟩
  ·have hd : decide (600 < (manyL l : Int)) = true := decide_eq_true (by omega)
   have HF : Hid (V = false) := by show _ = _; rw [← HV.out]; simp [h6]
   obtain ⟨a1, b1, c1, d1, e1, f1⟩ := A
   unfold Aff.v
   simp only at HG ⊢
   generalize hmm : manyL l = m at *
   go_enter Try.func13, Try.ntmps13
   go_wp2_with fail
   refine Calls.mono (HG.out _) ?_
   rintro e w1 ⟨rfl, k1⟩
   have K1 : Hid (Nw w w1) := nw_box k1.nw
   clear k1
   go_wp2_with fail
   refine Calls.mono (HP.out _ (Lines.nw HR.out K1.out)) ?_
   rintro e w2 ⟨rfl, k2⟩
   have K2 : Hid (Nw w w2) := Nw.trans K1.out k2.nw
   clear k2
   go_wp2
   refine bodyPost_ret (v := .tuple #[.slice none 0 0, .bool false]) (by simp [results, Try.results13, go_sem]) rfl ⟨_, [], by rw [HF.out], OwnLn.nil _ _, ?_, K2.out⟩
   rw [← HM.out, HF.out]; rfl
structure SX where
 bx : Nat
 ba : Nat
 bp : Nat
 A : Int
 B : Int
 C : Int
 D : Int
 E : Int
 F : Int
 x : Int
 y : Int
 va : Option Addr
 vn : Nat
 vc : Nat
 l : List Pnt
 cl : Bool
 W : World
 a0 : Act
structure SXOk (X : SX) : Prop where
 lb : LnB X.bx X.W (.slice X.va X.vn X.vc) X.l X.cl
 len : X.l.length + 1 ≤ 1000000
 cA : X.W.cell? ⟨X.ba, 0, none⟩ = some (.int .i64 X.A)
 cB : X.W.cell? ⟨X.ba, 1, none⟩ = some (.int .i64 X.B)
 cC : X.W.cell? ⟨X.ba, 2, none⟩ = some (.int .i64 X.C)
 cD : X.W.cell? ⟨X.ba, 3, none⟩ = some (.int .i64 X.D)
 cE : X.W.cell? ⟨X.ba, 4, none⟩ = some (.int .i64 X.E)
 cF : X.W.cell? ⟨X.ba, 5, none⟩ = some (.int .i64 X.F)
 cx : X.W.cell? ⟨X.bp, 0, none⟩ = some (.int .i64 X.x)
 cy : X.W.cell? ⟨X.bp, 1, none⟩ = some (.int .i64 X.y)
 w1 : IntKind.i64.wrap (fmV X.A X.x + fmV X.C X.y) = fmV X.A X.x + fmV X.C X.y
 w2 : IntKind.i64.wrap (fmV X.A X.x + fmV X.C X.y + X.E) = fmV X.A X.x + fmV X.C X.y + X.E
 w3 : IntKind.i64.wrap (fmV X.B X.x + fmV X.D X.y) = fmV X.B X.x + fmV X.D X.y
 w4 : IntKind.i64.wrap (fmV X.B X.x + fmV X.D X.y + X.F) = fmV X.B X.x + fmV X.D X.y + X.F
 e2 : X.a0.eval (.tmp 2) = .pointer (some ⟨X.ba, 0, none⟩)
 e8 : X.a0.eval (.tmp 8) = .pointer (some ⟨X.bx, 0, none⟩)
 e10 : X.a0.eval (.tmp 10) = .pointer (some ⟨X.bp, 0, none⟩)
 sz : X.a0.tmps.size = 68
def SX.val0 (X : SX) : Nat → Value
 | 27 => .pointer (some ⟨X.bx, 0, none⟩)
 | 28 => .slice X.va X.vn X.vc
 | 29 => .pointer (some ⟨X.ba, 0, none⟩)
 | 30 => .int .i64 X.A
 | 31 => .pointer (some ⟨X.bp, 0, none⟩)
 | 32 => .int .i64 X.x
 | 33 => .int .i64 (fmV X.A X.x)
 | 34 => .pointer (some ⟨X.ba, 2, none⟩)
 | 35 => .int .i64 X.C
 | 36 => .pointer (some ⟨X.bp, 1, none⟩)
 | 37 => .int .i64 X.y
 | 38 => .int .i64 (fmV X.C X.y)
 | 39 => .int .i64 (fmV X.A X.x + fmV X.C X.y)
 | 40 => .pointer (some ⟨X.ba, 4, none⟩)
 | 41 => .int .i64 X.E
 | 42 => .int .i64 (fmV X.A X.x + fmV X.C X.y + X.E)
 | 43 => .pointer (some ⟨X.ba, 1, none⟩)
 | 44 => .int .i64 X.B
 | 45 => .pointer (some ⟨X.bp, 0, none⟩)
 | 46 => .int .i64 X.x
 | 47 => .int .i64 (fmV X.B X.x)
 | 48 => .pointer (some ⟨X.ba, 3, none⟩)
 | 49 => .int .i64 X.D
 | 50 => .pointer (some ⟨X.bp, 1, none⟩)
 | 51 => .int .i64 X.y
 | 52 => .int .i64 (fmV X.D X.y)
 | 53 => .int .i64 (fmV X.B X.x + fmV X.D X.y)
 | 54 => .pointer (some ⟨X.ba, 5, none⟩)
 | 55 => .int .i64 X.F
 | 56 => .int .i64 (fmV X.B X.x + fmV X.D X.y + X.F)
 | 57 => .agg #[.int .i64 (fmV X.A X.x + fmV X.C X.y + X.E), .int .i64 (fmV X.B X.x + fmV X.D X.y + X.F)]
 | 60 => .pointer (some ⟨X.bx, 0, none⟩)
 | _ => undef
def SX.av : Nat → Option Nat
 | 58 => some 0
 | 59 => some 1
 | _ => none
def SX.acts : List Nat := [31, 32, 34]
def SX.Wd (X : SX) : Nat → (Nat → Value) → World → Prop
 | 0, _, w => Kp X.W w
 | 1, γ, w => ∃ w1, Kp X.W w1 ∧ γ 0 = .slice (some ⟨w1.heap.size, 0, none⟩) 1 1 ∧ w = w1.alloc (.cells #[.int .i64 (fmV X.A X.x + fmV X.C X.y + X.E), .int .i64 (fmV X.B X.x + fmV X.D X.y + X.F)] 27)
 | 2, γ, w => ∃ w1 g c, Kp X.W w1 ∧ γ 1 = .slice (some ⟨g, 0, none⟩) (X.l.length + 1) c ∧ OwnP w (X.bx + 1) (γ 1) (X.l ++ [(fmV X.A X.x + fmV X.C X.y + X.E, fmV X.B X.x + fmV X.D X.y + X.F)]) ∧ Ext (.slice X.va X.vn X.vc) (γ 1) w1 w
 | _, γ, w => ∃ w1 w2 g c, Kp X.W w1 ∧ γ 1 = .slice (some ⟨g, 0, none⟩) (X.l.length + 1) c ∧ OwnP w2 (X.bx + 1) (γ 1) (X.l ++ [(fmV X.A X.x + fmV X.C X.y + X.E, fmV X.B X.x + fmV X.D X.y + X.F)]) ∧ Ext (.slice X.va X.vn X.vc) (γ 1) w1 w2 ∧ w = w2.setCell ⟨X.bx, 0, none⟩ (γ 1)
theorem SX.chain : chainG (opsOf 9 Try.f56) SX.acts = true := by kernel_rfl
theorem SX.nodup : SX.acts.Nodup := by decide
theorem SX.inj {listed : Array Bool} {i k : Nat} (h : (List.range (opsOf 9 Try.f56).size).all (fun j => decide (j = i) || !(match dstOf (opsOf 9 Try.f56) j with | some d => decide (SX.av d = some k) | none => false)) = true) (hu : listed.getD i false = false) : ∀ d, got (opsOf 9 Try.f56) listed d → SX.av d ≠ some k := by
 rintro d ⟨j, h1, h2⟩ h3
 have hlt : j < (opsOf 9 Try.f56).size := by
  rcases Nat.lt_or_ge j (opsOf 9 Try.f56).size with h4 | h4
  ·exact h4
  ·unfold dstOf at h2; rw [Array.getElem?_eq_none h4] at h2; cases h2
 have h5 := List.all_eq_true.1 h j (List.mem_range.2 hlt)
 rw [h2] at h5
 simp only [h3, decide_true, Bool.not_true, Bool.or_false, decide_eq_true_eq] at h5
 subst h5
 rw [hu] at h1
 cases h1
theorem SX.s0 (X : SX) (ok : SXOk X) {Q : PQ} : StepG (opsOf 9 Try.f56) SX.acts SX.av X.val0 X.Wd X.a0 Q 0 := by
 intro γ listed a w o hF hC hW h1 ho h2
 obtain ⟨hd, hop, hg⟩ := fields2 (x := some 27) (y := Op.fieldAddr 55 (.tmp 8) 0) (z := none) (by kernel_rfl) ho
 have e8 : a.eval (.tmp 8) = .pointer (some ⟨X.bx, 0, none⟩) := (hF.eval0 (by kernel_rfl)).trans ok.e8
 refine st_pureG hF hC hW ho h2 (by decide) hd hg rfl ?_
 show _ = Result.ok (Next.value (.pointer (some ⟨X.bx, 0, none⟩))) w
 generalize a.eval = ρ at e8 ⊢
 unfold execOp
 rw [hop]
 simp [e8, go_sem]
theorem SX.s1 (X : SX) (ok : SXOk X) {Q : PQ} : StepG (opsOf 9 Try.f56) SX.acts SX.av X.val0 X.Wd X.a0 Q 1 := by
 intro γ listed a w o hF hC hW h1 ho h2
 obtain ⟨hd, hop, hg⟩ := fields2 (x := some 28) (y := Op.load 23 (.tmp 27)) (z := none) (by kernel_rfl) ho
 have e27 : a.eval (.tmp 27) = .pointer (some ⟨X.bx, 0, none⟩) := slotG hF ho h2 (j := 0) (d := 27) (by kernel_rfl) (by kernel_rfl) (by rw [ok.sz]; decide)
 have hph := phase_leG (acts := SX.acts) (m := 1) (x := 32) hC (unl (hF.lt ho) h1) rfl [1] (by kernel_rfl) (by decide)
 have hWW := hW
 generalize phase listed SX.acts = n at hph hWW
 have hk : Nw X.W w := by
  rcases (show n = 0 ∨ n = 1 by omega) with rfl | rfl
  ·exact hWW.nw
  ·obtain ⟨w1, k1, _, rfl⟩ := hWW
   exact Nw.trans k1.nw ((Below.refl _ _).alloc (Nat.le_refl _) _)
 have hc := (ok.lb.nw hk).c0
 refine st_pureG hF hC hW ho h2 (by decide) hd hg rfl ?_
 show _ = Result.ok (Next.value (.slice X.va X.vn X.vc)) w
 generalize a.eval = ρ at e27 ⊢
 unfold execOp
 rw [hop]
 simp [e27, hc, go_sem]
theorem SX.s2 (X : SX) (ok : SXOk X) {Q : PQ} : StepG (opsOf 9 Try.f56) SX.acts SX.av X.val0 X.Wd X.a0 Q 2 := by
 intro γ listed a w o hF hC hW h1 ho h2
 obtain ⟨hd, hop, hg⟩ := fields2 (x := some 29) (y := Op.fieldAddr 31 (.tmp 2) 0) (z := none) (by kernel_rfl) ho
 have e2 : a.eval (.tmp 2) = .pointer (some ⟨X.ba, 0, none⟩) := (hF.eval0 (by kernel_rfl)).trans ok.e2
 refine st_pureG hF hC hW ho h2 (by decide) hd hg rfl ?_
 show _ = Result.ok (Next.value (.pointer (some ⟨X.ba, 0, none⟩))) w
 generalize a.eval = ρ at e2 ⊢
 unfold execOp
 rw [hop]
 simp [e2, go_sem]
theorem SX.s3 (X : SX) (ok : SXOk X) {Q : PQ} : StepG (opsOf 9 Try.f56) SX.acts SX.av X.val0 X.Wd X.a0 Q 3 := by
 intro γ listed a w o hF hC hW h1 ho h2
 obtain ⟨hd, hop, hg⟩ := fields2 (x := some 30) (y := Op.load 3 (.tmp 29)) (z := none) (by kernel_rfl) ho
 have e29 : a.eval (.tmp 29) = .pointer (some ⟨X.ba, 0, none⟩) := slotG hF ho h2 (j := 2) (d := 29) (by kernel_rfl) (by kernel_rfl) (by rw [ok.sz]; decide)
 have hph := phase_leG (acts := SX.acts) (m := 0) (x := 31) hC (unl (hF.lt ho) h1) rfl [30, 15, 12, 6, 3] (by kernel_rfl) (by decide)
 have hWW := hW
 generalize phase listed SX.acts = n at hph hWW
 have hk : Kp X.W w := by
  obtain rfl : n = 0 := by omega
  exact hWW
 have hc := kp_at hk ok.cA
 refine st_pureG hF hC hW ho h2 (by decide) hd hg rfl ?_
 show _ = Result.ok (Next.value (.int .i64 X.A)) w
 generalize a.eval = ρ at e29 ⊢
 unfold execOp
 rw [hop]
 simp [e29, hc, go_sem]
theorem SX.s4 (X : SX) (ok : SXOk X) {Q : PQ} : StepG (opsOf 9 Try.f56) SX.acts SX.av X.val0 X.Wd X.a0 Q 4 := by
 intro γ listed a w o hF hC hW h1 ho h2
 obtain ⟨hd, hop, hg⟩ := fields2 (x := some 31) (y := Op.fieldAddr 27 (.tmp 10) 0) (z := none) (by kernel_rfl) ho
 have e10 : a.eval (.tmp 10) = .pointer (some ⟨X.bp, 0, none⟩) := (hF.eval0 (by kernel_rfl)).trans ok.e10
 refine st_pureG hF hC hW ho h2 (by decide) hd hg rfl ?_
 show _ = Result.ok (Next.value (.pointer (some ⟨X.bp, 0, none⟩))) w
 generalize a.eval = ρ at e10 ⊢
 unfold execOp
 rw [hop]
 simp [e10, go_sem]
theorem SX.s5 (X : SX) (ok : SXOk X) {Q : PQ} : StepG (opsOf 9 Try.f56) SX.acts SX.av X.val0 X.Wd X.a0 Q 5 := by
 intro γ listed a w o hF hC hW h1 ho h2
 obtain ⟨hd, hop, hg⟩ := fields2 (x := some 32) (y := Op.load 3 (.tmp 31)) (z := none) (by kernel_rfl) ho
 have e31 : a.eval (.tmp 31) = .pointer (some ⟨X.bp, 0, none⟩) := slotG hF ho h2 (j := 4) (d := 31) (by kernel_rfl) (by kernel_rfl) (by rw [ok.sz]; decide)
 have hph := phase_leG (acts := SX.acts) (m := 0) (x := 31) hC (unl (hF.lt ho) h1) rfl [30, 15, 12, 6, 5] (by kernel_rfl) (by decide)
 have hWW := hW
 generalize phase listed SX.acts = n at hph hWW
 have hk : Kp X.W w := by
  obtain rfl : n = 0 := by omega
  exact hWW
 have hc := kp_at hk ok.cx
 refine st_pureG hF hC hW ho h2 (by decide) hd hg rfl ?_
 show _ = Result.ok (Next.value (.int .i64 X.x)) w
 generalize a.eval = ρ at e31 ⊢
 unfold execOp
 rw [hop]
 simp [e31, hc, go_sem]
theorem SX.s6 (X : SX) (ok : SXOk X) {Q : PQ} : StepG (opsOf 9 Try.f56) SX.acts SX.av X.val0 X.Wd X.a0 Q 6 := by
 intro γ listed a w o hF hC hW h1 ho h2
 obtain ⟨hd, hop, hg⟩ := fields2 (x := some 33) (y := Op.call { callee := .value (.func 90), args := #[(.tmp 30), (.tmp 32)], argTypes := #[3, 3] }) (z := none) (by kernel_rfl) ho
 have e30 : a.eval (.tmp 30) = .int .i64 X.A := slotG hF ho h2 (j := 3) (d := 30) (by kernel_rfl) (by kernel_rfl) (by rw [ok.sz]; decide)
 have e32 : a.eval (.tmp 32) = .int .i64 X.x := slotG hF ho h2 (j := 5) (d := 32) (by kernel_rfl) (by kernel_rfl) (by rw [ok.sz]; decide)
 have ef : a.eval (.func 90) = .func (.func 90) #[] #[] := rfl
 refine st_callG hF hC hW ho h2 (by decide) hd hg rfl (f := 90) (args := #[.int .i64 X.A, .int .i64 X.x]) ?_ ?_ ?_
 ·generalize a.eval = ρ at e30 e32 ef ⊢
  unfold execOp
  rw [hop]
  simp [e30, e32, ef, go_sem]
 ·exact sfm X.A X.x w
 ·intro w' hk
  have hz : phase listed SX.acts = 0 := by
   have := phase_leG (acts := SX.acts) (m := 0) (x := 31) hC (unl (hF.lt ho) h1) rfl [30, 15, 12, 6] (by kernel_rfl) (by decide)
   omega
  rw [hz] at hW ⊢
  exact Kp.trans hW hk
theorem SX.s7 (X : SX) (ok : SXOk X) {Q : PQ} : StepG (opsOf 9 Try.f56) SX.acts SX.av X.val0 X.Wd X.a0 Q 7 := by
 intro γ listed a w o hF hC hW h1 ho h2
 obtain ⟨hd, hop, hg⟩ := fields2 (x := some 34) (y := Op.fieldAddr 31 (.tmp 2) 2) (z := none) (by kernel_rfl) ho
 have e2 : a.eval (.tmp 2) = .pointer (some ⟨X.ba, 0, none⟩) := (hF.eval0 (by kernel_rfl)).trans ok.e2
 refine st_pureG hF hC hW ho h2 (by decide) hd hg rfl ?_
 show _ = Result.ok (Next.value (.pointer (some ⟨X.ba, 2, none⟩))) w
 generalize a.eval = ρ at e2 ⊢
 unfold execOp
 rw [hop]
 simp [e2, go_sem]
theorem SX.s8 (X : SX) (ok : SXOk X) {Q : PQ} : StepG (opsOf 9 Try.f56) SX.acts SX.av X.val0 X.Wd X.a0 Q 8 := by
 intro γ listed a w o hF hC hW h1 ho h2
 obtain ⟨hd, hop, hg⟩ := fields2 (x := some 35) (y := Op.load 3 (.tmp 34)) (z := none) (by kernel_rfl) ho
 have e34 : a.eval (.tmp 34) = .pointer (some ⟨X.ba, 2, none⟩) := slotG hF ho h2 (j := 7) (d := 34) (by kernel_rfl) (by kernel_rfl) (by rw [ok.sz]; decide)
 have hph := phase_leG (acts := SX.acts) (m := 0) (x := 31) hC (unl (hF.lt ho) h1) rfl [30, 15, 12, 11, 8] (by kernel_rfl) (by decide)
 have hWW := hW
 generalize phase listed SX.acts = n at hph hWW
 have hk : Kp X.W w := by
  obtain rfl : n = 0 := by omega
  exact hWW
 have hc := kp_at hk ok.cC
 refine st_pureG hF hC hW ho h2 (by decide) hd hg rfl ?_
 show _ = Result.ok (Next.value (.int .i64 X.C)) w
 generalize a.eval = ρ at e34 ⊢
 unfold execOp
 rw [hop]
 simp [e34, hc, go_sem]
theorem SX.s9 (X : SX) (ok : SXOk X) {Q : PQ} : StepG (opsOf 9 Try.f56) SX.acts SX.av X.val0 X.Wd X.a0 Q 9 := by
 intro γ listed a w o hF hC hW h1 ho h2
 obtain ⟨hd, hop, hg⟩ := fields2 (x := some 36) (y := Op.fieldAddr 27 (.tmp 10) 1) (z := none) (by kernel_rfl) ho
 have e10 : a.eval (.tmp 10) = .pointer (some ⟨X.bp, 0, none⟩) := (hF.eval0 (by kernel_rfl)).trans ok.e10
 refine st_pureG hF hC hW ho h2 (by decide) hd hg rfl ?_
 show _ = Result.ok (Next.value (.pointer (some ⟨X.bp, 1, none⟩))) w
 generalize a.eval = ρ at e10 ⊢
 unfold execOp
 rw [hop]
 simp [e10, go_sem]
theorem SX.s10 (X : SX) (ok : SXOk X) {Q : PQ} : StepG (opsOf 9 Try.f56) SX.acts SX.av X.val0 X.Wd X.a0 Q 10 := by
 intro γ listed a w o hF hC hW h1 ho h2
 obtain ⟨hd, hop, hg⟩ := fields2 (x := some 37) (y := Op.load 3 (.tmp 36)) (z := none) (by kernel_rfl) ho
 have e36 : a.eval (.tmp 36) = .pointer (some ⟨X.bp, 1, none⟩) := slotG hF ho h2 (j := 9) (d := 36) (by kernel_rfl) (by kernel_rfl) (by rw [ok.sz]; decide)
 have hph := phase_leG (acts := SX.acts) (m := 0) (x := 31) hC (unl (hF.lt ho) h1) rfl [30, 15, 12, 11, 10] (by kernel_rfl) (by decide)
 have hWW := hW
 generalize phase listed SX.acts = n at hph hWW
 have hk : Kp X.W w := by
  obtain rfl : n = 0 := by omega
  exact hWW
 have hc := kp_at hk ok.cy
 refine st_pureG hF hC hW ho h2 (by decide) hd hg rfl ?_
 show _ = Result.ok (Next.value (.int .i64 X.y)) w
 generalize a.eval = ρ at e36 ⊢
 unfold execOp
 rw [hop]
 simp [e36, hc, go_sem]
theorem SX.s11 (X : SX) (ok : SXOk X) {Q : PQ} : StepG (opsOf 9 Try.f56) SX.acts SX.av X.val0 X.Wd X.a0 Q 11 := by
 intro γ listed a w o hF hC hW h1 ho h2
 obtain ⟨hd, hop, hg⟩ := fields2 (x := some 38) (y := Op.call { callee := .value (.func 90), args := #[(.tmp 35), (.tmp 37)], argTypes := #[3, 3] }) (z := none) (by kernel_rfl) ho
 have e35 : a.eval (.tmp 35) = .int .i64 X.C := slotG hF ho h2 (j := 8) (d := 35) (by kernel_rfl) (by kernel_rfl) (by rw [ok.sz]; decide)
 have e37 : a.eval (.tmp 37) = .int .i64 X.y := slotG hF ho h2 (j := 10) (d := 37) (by kernel_rfl) (by kernel_rfl) (by rw [ok.sz]; decide)
 have ef : a.eval (.func 90) = .func (.func 90) #[] #[] := rfl
 refine st_callG hF hC hW ho h2 (by decide) hd hg rfl (f := 90) (args := #[.int .i64 X.C, .int .i64 X.y]) ?_ ?_ ?_
 ·generalize a.eval = ρ at e35 e37 ef ⊢
  unfold execOp
  rw [hop]
  simp [e35, e37, ef, go_sem]
 ·exact sfm X.C X.y w
 ·intro w' hk
  have hz : phase listed SX.acts = 0 := by
   have := phase_leG (acts := SX.acts) (m := 0) (x := 31) hC (unl (hF.lt ho) h1) rfl [30, 15, 12, 11] (by kernel_rfl) (by decide)
   omega
  rw [hz] at hW ⊢
  exact Kp.trans hW hk
theorem SX.s12 (X : SX) (ok : SXOk X) {Q : PQ} : StepG (opsOf 9 Try.f56) SX.acts SX.av X.val0 X.Wd X.a0 Q 12 := by
 intro γ listed a w o hF hC hW h1 ho h2
 obtain ⟨hd, hop, hg⟩ := fields2 (x := some 39) (y := Op.binOp .add 3 (.tmp 33) (.tmp 38) 3) (z := none) (by kernel_rfl) ho
 have e33 : a.eval (.tmp 33) = .int .i64 (fmV X.A X.x) := slotG hF ho h2 (j := 6) (d := 33) (by kernel_rfl) (by kernel_rfl) (by rw [ok.sz]; decide)
 have e38 : a.eval (.tmp 38) = .int .i64 (fmV X.C X.y) := slotG hF ho h2 (j := 11) (d := 38) (by kernel_rfl) (by kernel_rfl) (by rw [ok.sz]; decide)
 refine st_pureG hF hC hW ho h2 (by decide) hd hg rfl ?_
 show _ = Result.ok (Next.value (.int .i64 (fmV X.A X.x + fmV X.C X.y))) w
 generalize a.eval = ρ at e33 e38 ⊢
 unfold execOp
 rw [hop]
 simp [e33, e38, ok.w1, go_sem]
theorem SX.s13 (X : SX) (ok : SXOk X) {Q : PQ} : StepG (opsOf 9 Try.f56) SX.acts SX.av X.val0 X.Wd X.a0 Q 13 := by
 intro γ listed a w o hF hC hW h1 ho h2
 obtain ⟨hd, hop, hg⟩ := fields2 (x := some 40) (y := Op.fieldAddr 31 (.tmp 2) 4) (z := none) (by kernel_rfl) ho
 have e2 : a.eval (.tmp 2) = .pointer (some ⟨X.ba, 0, none⟩) := (hF.eval0 (by kernel_rfl)).trans ok.e2
 refine st_pureG hF hC hW ho h2 (by decide) hd hg rfl ?_
 show _ = Result.ok (Next.value (.pointer (some ⟨X.ba, 4, none⟩))) w
 generalize a.eval = ρ at e2 ⊢
 unfold execOp
 rw [hop]
 simp [e2, go_sem]
theorem SX.s14 (X : SX) (ok : SXOk X) {Q : PQ} : StepG (opsOf 9 Try.f56) SX.acts SX.av X.val0 X.Wd X.a0 Q 14 := by
 intro γ listed a w o hF hC hW h1 ho h2
 obtain ⟨hd, hop, hg⟩ := fields2 (x := some 41) (y := Op.load 3 (.tmp 40)) (z := none) (by kernel_rfl) ho
 have e40 : a.eval (.tmp 40) = .pointer (some ⟨X.ba, 4, none⟩) := slotG hF ho h2 (j := 13) (d := 40) (by kernel_rfl) (by kernel_rfl) (by rw [ok.sz]; decide)
 have hph := phase_leG (acts := SX.acts) (m := 0) (x := 31) hC (unl (hF.lt ho) h1) rfl [30, 15, 14] (by kernel_rfl) (by decide)
 have hWW := hW
 generalize phase listed SX.acts = n at hph hWW
 have hk : Kp X.W w := by
  obtain rfl : n = 0 := by omega
  exact hWW
 have hc := kp_at hk ok.cE
 refine st_pureG hF hC hW ho h2 (by decide) hd hg rfl ?_
 show _ = Result.ok (Next.value (.int .i64 X.E)) w
 generalize a.eval = ρ at e40 ⊢
 unfold execOp
 rw [hop]
 simp [e40, hc, go_sem]
theorem SX.s15 (X : SX) (ok : SXOk X) {Q : PQ} : StepG (opsOf 9 Try.f56) SX.acts SX.av X.val0 X.Wd X.a0 Q 15 := by
 intro γ listed a w o hF hC hW h1 ho h2
 obtain ⟨hd, hop, hg⟩ := fields2 (x := some 42) (y := Op.binOp .add 3 (.tmp 39) (.tmp 41) 3) (z := none) (by kernel_rfl) ho
 have e39 : a.eval (.tmp 39) = .int .i64 (fmV X.A X.x + fmV X.C X.y) := slotG hF ho h2 (j := 12) (d := 39) (by kernel_rfl) (by kernel_rfl) (by rw [ok.sz]; decide)
 have e41 : a.eval (.tmp 41) = .int .i64 X.E := slotG hF ho h2 (j := 14) (d := 41) (by kernel_rfl) (by kernel_rfl) (by rw [ok.sz]; decide)
 refine st_pureG hF hC hW ho h2 (by decide) hd hg rfl ?_
 show _ = Result.ok (Next.value (.int .i64 (fmV X.A X.x + fmV X.C X.y + X.E))) w
 generalize a.eval = ρ at e39 e41 ⊢
 unfold execOp
 rw [hop]
 simp [e39, e41, ok.w2, go_sem]
theorem SX.s16 (X : SX) (ok : SXOk X) {Q : PQ} : StepG (opsOf 9 Try.f56) SX.acts SX.av X.val0 X.Wd X.a0 Q 16 := by
 intro γ listed a w o hF hC hW h1 ho h2
 obtain ⟨hd, hop, hg⟩ := fields2 (x := some 43) (y := Op.fieldAddr 31 (.tmp 2) 1) (z := none) (by kernel_rfl) ho
 have e2 : a.eval (.tmp 2) = .pointer (some ⟨X.ba, 0, none⟩) := (hF.eval0 (by kernel_rfl)).trans ok.e2
 refine st_pureG hF hC hW ho h2 (by decide) hd hg rfl ?_
 show _ = Result.ok (Next.value (.pointer (some ⟨X.ba, 1, none⟩))) w
 generalize a.eval = ρ at e2 ⊢
 unfold execOp
 rw [hop]
 simp [e2, go_sem]
theorem SX.s17 (X : SX) (ok : SXOk X) {Q : PQ} : StepG (opsOf 9 Try.f56) SX.acts SX.av X.val0 X.Wd X.a0 Q 17 := by
 intro γ listed a w o hF hC hW h1 ho h2
 obtain ⟨hd, hop, hg⟩ := fields2 (x := some 44) (y := Op.load 3 (.tmp 43)) (z := none) (by kernel_rfl) ho
 have e43 : a.eval (.tmp 43) = .pointer (some ⟨X.ba, 1, none⟩) := slotG hF ho h2 (j := 16) (d := 43) (by kernel_rfl) (by kernel_rfl) (by rw [ok.sz]; decide)
 have hph := phase_leG (acts := SX.acts) (m := 0) (x := 31) hC (unl (hF.lt ho) h1) rfl [30, 29, 26, 20, 17] (by kernel_rfl) (by decide)
 have hWW := hW
 generalize phase listed SX.acts = n at hph hWW
 have hk : Kp X.W w := by
  obtain rfl : n = 0 := by omega
  exact hWW
 have hc := kp_at hk ok.cB
 refine st_pureG hF hC hW ho h2 (by decide) hd hg rfl ?_
 show _ = Result.ok (Next.value (.int .i64 X.B)) w
 generalize a.eval = ρ at e43 ⊢
 unfold execOp
 rw [hop]
 simp [e43, hc, go_sem]
theorem SX.s18 (X : SX) (ok : SXOk X) {Q : PQ} : StepG (opsOf 9 Try.f56) SX.acts SX.av X.val0 X.Wd X.a0 Q 18 := by
 intro γ listed a w o hF hC hW h1 ho h2
 obtain ⟨hd, hop, hg⟩ := fields2 (x := some 45) (y := Op.fieldAddr 27 (.tmp 10) 0) (z := none) (by kernel_rfl) ho
 have e10 : a.eval (.tmp 10) = .pointer (some ⟨X.bp, 0, none⟩) := (hF.eval0 (by kernel_rfl)).trans ok.e10
 refine st_pureG hF hC hW ho h2 (by decide) hd hg rfl ?_
 show _ = Result.ok (Next.value (.pointer (some ⟨X.bp, 0, none⟩))) w
 generalize a.eval = ρ at e10 ⊢
 unfold execOp
 rw [hop]
 simp [e10, go_sem]
theorem SX.s19 (X : SX) (ok : SXOk X) {Q : PQ} : StepG (opsOf 9 Try.f56) SX.acts SX.av X.val0 X.Wd X.a0 Q 19 := by
 intro γ listed a w o hF hC hW h1 ho h2
 obtain ⟨hd, hop, hg⟩ := fields2 (x := some 46) (y := Op.load 3 (.tmp 45)) (z := none) (by kernel_rfl) ho
 have e45 : a.eval (.tmp 45) = .pointer (some ⟨X.bp, 0, none⟩) := slotG hF ho h2 (j := 18) (d := 45) (by kernel_rfl) (by kernel_rfl) (by rw [ok.sz]; decide)
 have hph := phase_leG (acts := SX.acts) (m := 0) (x := 31) hC (unl (hF.lt ho) h1) rfl [30, 29, 26, 20, 19] (by kernel_rfl) (by decide)
 have hWW := hW
 generalize phase listed SX.acts = n at hph hWW
 have hk : Kp X.W w := by
  obtain rfl : n = 0 := by omega
  exact hWW
 have hc := kp_at hk ok.cx
 refine st_pureG hF hC hW ho h2 (by decide) hd hg rfl ?_
 show _ = Result.ok (Next.value (.int .i64 X.x)) w
 generalize a.eval = ρ at e45 ⊢
 unfold execOp
 rw [hop]
 simp [e45, hc, go_sem]
theorem SX.s20 (X : SX) (ok : SXOk X) {Q : PQ} : StepG (opsOf 9 Try.f56) SX.acts SX.av X.val0 X.Wd X.a0 Q 20 := by
 intro γ listed a w o hF hC hW h1 ho h2
 obtain ⟨hd, hop, hg⟩ := fields2 (x := some 47) (y := Op.call { callee := .value (.func 90), args := #[(.tmp 44), (.tmp 46)], argTypes := #[3, 3] }) (z := none) (by kernel_rfl) ho
 have e44 : a.eval (.tmp 44) = .int .i64 X.B := slotG hF ho h2 (j := 17) (d := 44) (by kernel_rfl) (by kernel_rfl) (by rw [ok.sz]; decide)
 have e46 : a.eval (.tmp 46) = .int .i64 X.x := slotG hF ho h2 (j := 19) (d := 46) (by kernel_rfl) (by kernel_rfl) (by rw [ok.sz]; decide)
 have ef : a.eval (.func 90) = .func (.func 90) #[] #[] := rfl
 refine st_callG hF hC hW ho h2 (by decide) hd hg rfl (f := 90) (args := #[.int .i64 X.B, .int .i64 X.x]) ?_ ?_ ?_
 ·generalize a.eval = ρ at e44 e46 ef ⊢
  unfold execOp
  rw [hop]
  simp [e44, e46, ef, go_sem]
 ·exact sfm X.B X.x w
 ·intro w' hk
  have hz : phase listed SX.acts = 0 := by
   have := phase_leG (acts := SX.acts) (m := 0) (x := 31) hC (unl (hF.lt ho) h1) rfl [30, 29, 26, 20] (by kernel_rfl) (by decide)
   omega
  rw [hz] at hW ⊢
  exact Kp.trans hW hk
theorem SX.s21 (X : SX) (ok : SXOk X) {Q : PQ} : StepG (opsOf 9 Try.f56) SX.acts SX.av X.val0 X.Wd X.a0 Q 21 := by
 intro γ listed a w o hF hC hW h1 ho h2
 obtain ⟨hd, hop, hg⟩ := fields2 (x := some 48) (y := Op.fieldAddr 31 (.tmp 2) 3) (z := none) (by kernel_rfl) ho
 have e2 : a.eval (.tmp 2) = .pointer (some ⟨X.ba, 0, none⟩) := (hF.eval0 (by kernel_rfl)).trans ok.e2
 refine st_pureG hF hC hW ho h2 (by decide) hd hg rfl ?_
 show _ = Result.ok (Next.value (.pointer (some ⟨X.ba, 3, none⟩))) w
 generalize a.eval = ρ at e2 ⊢
 unfold execOp
 rw [hop]
 simp [e2, go_sem]
theorem SX.s22 (X : SX) (ok : SXOk X) {Q : PQ} : StepG (opsOf 9 Try.f56) SX.acts SX.av X.val0 X.Wd X.a0 Q 22 := by
 intro γ listed a w o hF hC hW h1 ho h2
 obtain ⟨hd, hop, hg⟩ := fields2 (x := some 49) (y := Op.load 3 (.tmp 48)) (z := none) (by kernel_rfl) ho
 have e48 : a.eval (.tmp 48) = .pointer (some ⟨X.ba, 3, none⟩) := slotG hF ho h2 (j := 21) (d := 48) (by kernel_rfl) (by kernel_rfl) (by rw [ok.sz]; decide)
 have hph := phase_leG (acts := SX.acts) (m := 0) (x := 31) hC (unl (hF.lt ho) h1) rfl [30, 29, 26, 25, 22] (by kernel_rfl) (by decide)
 have hWW := hW
 generalize phase listed SX.acts = n at hph hWW
 have hk : Kp X.W w := by
  obtain rfl : n = 0 := by omega
  exact hWW
 have hc := kp_at hk ok.cD
 refine st_pureG hF hC hW ho h2 (by decide) hd hg rfl ?_
 show _ = Result.ok (Next.value (.int .i64 X.D)) w
 generalize a.eval = ρ at e48 ⊢
 unfold execOp
 rw [hop]
 simp [e48, hc, go_sem]
theorem SX.s23 (X : SX) (ok : SXOk X) {Q : PQ} : StepG (opsOf 9 Try.f56) SX.acts SX.av X.val0 X.Wd X.a0 Q 23 := by
 intro γ listed a w o hF hC hW h1 ho h2
 obtain ⟨hd, hop, hg⟩ := fields2 (x := some 50) (y := Op.fieldAddr 27 (.tmp 10) 1) (z := none) (by kernel_rfl) ho
 have e10 : a.eval (.tmp 10) = .pointer (some ⟨X.bp, 0, none⟩) := (hF.eval0 (by kernel_rfl)).trans ok.e10
 refine st_pureG hF hC hW ho h2 (by decide) hd hg rfl ?_
 show _ = Result.ok (Next.value (.pointer (some ⟨X.bp, 1, none⟩))) w
 generalize a.eval = ρ at e10 ⊢
 unfold execOp
 rw [hop]
 simp [e10, go_sem]
theorem SX.s24 (X : SX) (ok : SXOk X) {Q : PQ} : StepG (opsOf 9 Try.f56) SX.acts SX.av X.val0 X.Wd X.a0 Q 24 := by
 intro γ listed a w o hF hC hW h1 ho h2
 obtain ⟨hd, hop, hg⟩ := fields2 (x := some 51) (y := Op.load 3 (.tmp 50)) (z := none) (by kernel_rfl) ho
 have e50 : a.eval (.tmp 50) = .pointer (some ⟨X.bp, 1, none⟩) := slotG hF ho h2 (j := 23) (d := 50) (by kernel_rfl) (by kernel_rfl) (by rw [ok.sz]; decide)
 have hph := phase_leG (acts := SX.acts) (m := 0) (x := 31) hC (unl (hF.lt ho) h1) rfl [30, 29, 26, 25, 24] (by kernel_rfl) (by decide)
 have hWW := hW
 generalize phase listed SX.acts = n at hph hWW
 have hk : Kp X.W w := by
  obtain rfl : n = 0 := by omega
  exact hWW
 have hc := kp_at hk ok.cy
 refine st_pureG hF hC hW ho h2 (by decide) hd hg rfl ?_
 show _ = Result.ok (Next.value (.int .i64 X.y)) w
 generalize a.eval = ρ at e50 ⊢
 unfold execOp
 rw [hop]
 simp [e50, hc, go_sem]
theorem SX.s25 (X : SX) (ok : SXOk X) {Q : PQ} : StepG (opsOf 9 Try.f56) SX.acts SX.av X.val0 X.Wd X.a0 Q 25 := by
 intro γ listed a w o hF hC hW h1 ho h2
 obtain ⟨hd, hop, hg⟩ := fields2 (x := some 52) (y := Op.call { callee := .value (.func 90), args := #[(.tmp 49), (.tmp 51)], argTypes := #[3, 3] }) (z := none) (by kernel_rfl) ho
 have e49 : a.eval (.tmp 49) = .int .i64 X.D := slotG hF ho h2 (j := 22) (d := 49) (by kernel_rfl) (by kernel_rfl) (by rw [ok.sz]; decide)
 have e51 : a.eval (.tmp 51) = .int .i64 X.y := slotG hF ho h2 (j := 24) (d := 51) (by kernel_rfl) (by kernel_rfl) (by rw [ok.sz]; decide)
 have ef : a.eval (.func 90) = .func (.func 90) #[] #[] := rfl
 refine st_callG hF hC hW ho h2 (by decide) hd hg rfl (f := 90) (args := #[.int .i64 X.D, .int .i64 X.y]) ?_ ?_ ?_
 ·generalize a.eval = ρ at e49 e51 ef ⊢
  unfold execOp
  rw [hop]
  simp [e49, e51, ef, go_sem]
 ·exact sfm X.D X.y w
 ·intro w' hk
  have hz : phase listed SX.acts = 0 := by
   have := phase_leG (acts := SX.acts) (m := 0) (x := 31) hC (unl (hF.lt ho) h1) rfl [30, 29, 26, 25] (by kernel_rfl) (by decide)
   omega
  rw [hz] at hW ⊢
  exact Kp.trans hW hk
theorem SX.s26 (X : SX) (ok : SXOk X) {Q : PQ} : StepG (opsOf 9 Try.f56) SX.acts SX.av X.val0 X.Wd X.a0 Q 26 := by
 intro γ listed a w o hF hC hW h1 ho h2
 obtain ⟨hd, hop, hg⟩ := fields2 (x := some 53) (y := Op.binOp .add 3 (.tmp 47) (.tmp 52) 3) (z := none) (by kernel_rfl) ho
 have e47 : a.eval (.tmp 47) = .int .i64 (fmV X.B X.x) := slotG hF ho h2 (j := 20) (d := 47) (by kernel_rfl) (by kernel_rfl) (by rw [ok.sz]; decide)
 have e52 : a.eval (.tmp 52) = .int .i64 (fmV X.D X.y) := slotG hF ho h2 (j := 25) (d := 52) (by kernel_rfl) (by kernel_rfl) (by rw [ok.sz]; decide)
 refine st_pureG hF hC hW ho h2 (by decide) hd hg rfl ?_
 show _ = Result.ok (Next.value (.int .i64 (fmV X.B X.x + fmV X.D X.y))) w
 generalize a.eval = ρ at e47 e52 ⊢
 unfold execOp
 rw [hop]
 simp [e47, e52, ok.w3, go_sem]
theorem SX.s27 (X : SX) (ok : SXOk X) {Q : PQ} : StepG (opsOf 9 Try.f56) SX.acts SX.av X.val0 X.Wd X.a0 Q 27 := by
 intro γ listed a w o hF hC hW h1 ho h2
 obtain ⟨hd, hop, hg⟩ := fields2 (x := some 54) (y := Op.fieldAddr 31 (.tmp 2) 5) (z := none) (by kernel_rfl) ho
 have e2 : a.eval (.tmp 2) = .pointer (some ⟨X.ba, 0, none⟩) := (hF.eval0 (by kernel_rfl)).trans ok.e2
 refine st_pureG hF hC hW ho h2 (by decide) hd hg rfl ?_
 show _ = Result.ok (Next.value (.pointer (some ⟨X.ba, 5, none⟩))) w
 generalize a.eval = ρ at e2 ⊢
 unfold execOp
 rw [hop]
 simp [e2, go_sem]
theorem SX.s28 (X : SX) (ok : SXOk X) {Q : PQ} : StepG (opsOf 9 Try.f56) SX.acts SX.av X.val0 X.Wd X.a0 Q 28 := by
 intro γ listed a w o hF hC hW h1 ho h2
 obtain ⟨hd, hop, hg⟩ := fields2 (x := some 55) (y := Op.load 3 (.tmp 54)) (z := none) (by kernel_rfl) ho
 have e54 : a.eval (.tmp 54) = .pointer (some ⟨X.ba, 5, none⟩) := slotG hF ho h2 (j := 27) (d := 54) (by kernel_rfl) (by kernel_rfl) (by rw [ok.sz]; decide)
 have hph := phase_leG (acts := SX.acts) (m := 0) (x := 31) hC (unl (hF.lt ho) h1) rfl [30, 29, 28] (by kernel_rfl) (by decide)
 have hWW := hW
 generalize phase listed SX.acts = n at hph hWW
 have hk : Kp X.W w := by
  obtain rfl : n = 0 := by omega
  exact hWW
 have hc := kp_at hk ok.cF
 refine st_pureG hF hC hW ho h2 (by decide) hd hg rfl ?_
 show _ = Result.ok (Next.value (.int .i64 X.F)) w
 generalize a.eval = ρ at e54 ⊢
 unfold execOp
 rw [hop]
 simp [e54, hc, go_sem]
theorem SX.s29 (X : SX) (ok : SXOk X) {Q : PQ} : StepG (opsOf 9 Try.f56) SX.acts SX.av X.val0 X.Wd X.a0 Q 29 := by
 intro γ listed a w o hF hC hW h1 ho h2
 obtain ⟨hd, hop, hg⟩ := fields2 (x := some 56) (y := Op.binOp .add 3 (.tmp 53) (.tmp 55) 3) (z := none) (by kernel_rfl) ho
 have e53 : a.eval (.tmp 53) = .int .i64 (fmV X.B X.x + fmV X.D X.y) := slotG hF ho h2 (j := 26) (d := 53) (by kernel_rfl) (by kernel_rfl) (by rw [ok.sz]; decide)
 have e55 : a.eval (.tmp 55) = .int .i64 X.F := slotG hF ho h2 (j := 28) (d := 55) (by kernel_rfl) (by kernel_rfl) (by rw [ok.sz]; decide)
 refine st_pureG hF hC hW ho h2 (by decide) hd hg rfl ?_
 show _ = Result.ok (Next.value (.int .i64 (fmV X.B X.x + fmV X.D X.y + X.F))) w
 generalize a.eval = ρ at e53 e55 ⊢
 unfold execOp
 rw [hop]
 simp [e53, e55, ok.w4, go_sem]
theorem SX.s30 (X : SX) (ok : SXOk X) {Q : PQ} : StepG (opsOf 9 Try.f56) SX.acts SX.av X.val0 X.Wd X.a0 Q 30 := by
 intro γ listed a w o hF hC hW h1 ho h2
 obtain ⟨hd, hop, hg⟩ := fields2 (x := some 57) (y := Op.build 27 #[(0, (.tmp 42)), (1, (.tmp 56))]) (z := none) (by kernel_rfl) ho
 have e42 : a.eval (.tmp 42) = .int .i64 (fmV X.A X.x + fmV X.C X.y + X.E) := slotG hF ho h2 (j := 15) (d := 42) (by kernel_rfl) (by kernel_rfl) (by rw [ok.sz]; decide)
 have e56 : a.eval (.tmp 56) = .int .i64 (fmV X.B X.x + fmV X.D X.y + X.F) := slotG hF ho h2 (j := 29) (d := 56) (by kernel_rfl) (by kernel_rfl) (by rw [ok.sz]; decide)
 refine st_pureG hF hC hW ho h2 (by decide) hd hg rfl ?_
 show _ = Result.ok (Next.value (.agg #[.int .i64 (fmV X.A X.x + fmV X.C X.y + X.E), .int .i64 (fmV X.B X.x + fmV X.D X.y + X.F)])) w
 generalize a.eval = ρ at e42 e56 ⊢
 unfold execOp
 rw [hop]
 simp [e42, e56, go_sem]
theorem SX.s31 (X : SX) (ok : SXOk X) {Q : PQ} : StepG (opsOf 9 Try.f56) SX.acts SX.av X.val0 X.Wd X.a0 Q 31 := by
 intro γ listed a w o hF hC hW h1 ho h2
 obtain ⟨hd, hop, hg⟩ := fields2 (x := some 58) (y := Op.buildSlice 23 1 #[(0, (.tmp 57))]) (z := none) (by kernel_rfl) ho
 have e57 : a.eval (.tmp 57) = .agg #[.int .i64 (fmV X.A X.x + fmV X.C X.y + X.E), .int .i64 (fmV X.B X.x + fmV X.D X.y + X.F)] := slotG hF ho h2 (j := 30) (d := 57) (by kernel_rfl) (by kernel_rfl) (by rw [ok.sz]; decide)
 have hu := unl (hF.lt ho) h1
 refine st_actG (k := 0) SX.chain SX.nodup rfl hF hC hW h1 ho h2 (Or.inr ⟨58, hd, rfl⟩) (SX.inj (by kernel_rfl) hu) hg ?_
 intro hW0 K hK
 have hr : (execOp a.eval o).run Try.prog w = .ok (.value (.slice (some ⟨w.heap.size, 0, none⟩) 1 1)) (w.alloc (.cells #[.int .i64 (fmV X.A X.x + fmV X.C X.y + X.E), .int .i64 (fmV X.B X.x + fmV X.D X.y + X.F)] 27)) := by
  generalize a.eval = ρ at e57 ⊢
  unfold execOp
  rw [hop]
  simp [e57, go_sem]
 unfold Oper.wp
 rw [hr]
 exact hK _ _ ⟨w, hW0, rfl, rfl⟩
theorem SX.s32 (X : SX) (ok : SXOk X) {Q : PQ} : StepG (opsOf 9 Try.f56) SX.acts SX.av X.val0 X.Wd X.a0 Q 32 := by
 intro γ listed a w o hF hC hW h1 ho h2
 obtain ⟨hd, hop, hg⟩ := fields2 (x := some 59) (y := Op.call { callee := .builtin .append, args := #[(.tmp 28), (.tmp 58)], argTypes := #[23, 23] }) (z := none) (by kernel_rfl) ho
 have e28 : a.eval (.tmp 28) = .slice X.va X.vn X.vc := slotG hF ho h2 (j := 1) (d := 28) (by kernel_rfl) (by kernel_rfl) (by rw [ok.sz]; decide)
 have e58 : a.eval (.tmp 58) = γ 0 := slotG hF ho h2 (j := 31) (d := 58) (by kernel_rfl) (by kernel_rfl) (by rw [ok.sz]; decide)
 have hu := unl (hF.lt ho) h1
 refine st_actG (k := 1) SX.chain SX.nodup rfl hF hC hW h1 ho h2 (Or.inr ⟨59, hd, rfl⟩) (SX.inj (by kernel_rfl) hu) hg ?_
 intro hW0 K hK
 obtain ⟨w1, k1, g0, rfl⟩ := hW0
 rw [g0] at e58
 have lb := ok.lb.nw k1.nw
 have n1 : Nw w1 (w1.alloc (.cells #[.int .i64 (fmV X.A X.x + fmV X.C X.y + X.E), .int .i64 (fmV X.B X.x + fmV X.D X.y + X.F)] 27)) := (Below.refl _ _).alloc (Nat.le_refl _) _
 refine wp_q 27 23 23 (.int .i64 0) (.int .i64 0) 16 under_pts under_pts Try.info27 (by decide) rfl _ (.tmp 28) (.tmp 58) hop (X.bx + 1) (.slice X.va X.vn X.vc) (vP X.l) (vP [(fmV X.A X.x + fmV X.C X.y + X.E, fmV X.B X.x + fmV X.D X.y + X.F)]) e28 (lb.own.nw n1) w1.heap.size 0 1 1 rfl e58 (liep_one w1 (fmV X.A X.x + fmV X.C X.y + X.E) (fmV X.B X.x + fmV X.D X.y + X.F) _).vv (vP_one _) (by simp [vP]) (by rw [vP_len]; have := ok.len; simp [vP]; omega) (by have := lb.lt; simp; omega) ?_
 intro g' c' w' h3 h4
 rw [vP_len] at h3 h4 ⊢
 rw [← vP_append] at h3
 exact hK _ _ ⟨w1, g', c', k1, rfl, h3, n1.ext h4⟩
theorem SX.s33 (X : SX) (ok : SXOk X) {Q : PQ} : StepG (opsOf 9 Try.f56) SX.acts SX.av X.val0 X.Wd X.a0 Q 33 := by
 intro γ listed a w o hF hC hW h1 ho h2
 obtain ⟨hd, hop, hg⟩ := fields2 (x := some 60) (y := Op.fieldAddr 55 (.tmp 8) 0) (z := none) (by kernel_rfl) ho
 have e8 : a.eval (.tmp 8) = .pointer (some ⟨X.bx, 0, none⟩) := (hF.eval0 (by kernel_rfl)).trans ok.e8
 refine st_pureG hF hC hW ho h2 (by decide) hd hg rfl ?_
 show _ = Result.ok (Next.value (.pointer (some ⟨X.bx, 0, none⟩))) w
 generalize a.eval = ρ at e8 ⊢
 unfold execOp
 rw [hop]
 simp [e8, go_sem]
theorem SX.s34 (X : SX) (ok : SXOk X) {Q : PQ} : StepG (opsOf 9 Try.f56) SX.acts SX.av X.val0 X.Wd X.a0 Q 34 := by
 intro γ listed a w o hF hC hW h1 ho h2
 obtain ⟨hd, hop, hg⟩ := fields2 (x := none) (y := Op.store 23 (.tmp 60) (.tmp 59)) (z := none) (by kernel_rfl) ho
 have e60 : a.eval (.tmp 60) = .pointer (some ⟨X.bx, 0, none⟩) := slotG hF ho h2 (j := 33) (d := 60) (by kernel_rfl) (by kernel_rfl) (by rw [ok.sz]; decide)
 have e59 : a.eval (.tmp 59) = γ 1 := slotG hF ho h2 (j := 32) (d := 59) (by kernel_rfl) (by kernel_rfl) (by rw [ok.sz]; decide)
 have hu := unl (hF.lt ho) h1
 refine st_actG (k := 2) SX.chain SX.nodup rfl hF hC hW h1 ho h2 (Or.inl hd) (SX.inj (by kernel_rfl) hu) hg ?_
 intro hW0 K hK
 obtain ⟨w1, g, cc, k1, g1, o1, x1⟩ := hW0
 obtain ⟨t0, tf⟩ := (ok.lb.nw k1.nw).there x1
 have hr : (execOp a.eval o).run Try.prog w = .ok .skip (w.setCell ⟨X.bx, 0, none⟩ (γ 1)) := by
  rw [g1] at e59 ⊢
  generalize a.eval = ρ at e59 e60 ⊢
  unfold execOp
  rw [hop]
  simp [e59, e60, t0, tf, go_sem]
 unfold Oper.wp
 rw [hr]
 exact hK _ _ ⟨w1, w, g, cc, k1, g1, o1, x1, rfl⟩
theorem SX.size : (opsOf 9 Try.f56).size = 35 := by kernel_rfl
theorem SX.steps (X : SX) (ok : SXOk X) {Q : PQ} (i : Nat) (hi : i < (opsOf 9 Try.f56).size) : StepG (opsOf 9 Try.f56) SX.acts SX.av X.val0 X.Wd X.a0 Q i := by
 rw [SX.size] at hi
 have hc : i = 0 ∨ i = 1 ∨ i = 2 ∨ i = 3 ∨ i = 4 ∨ i = 5 ∨ i = 6 ∨ i = 7 ∨ i = 8 ∨ i = 9 ∨ i = 10 ∨ i = 11 ∨ i = 12 ∨ i = 13 ∨ i = 14 ∨ i = 15 ∨ i = 16 ∨ i = 17 ∨ i = 18 ∨ i = 19 ∨ i = 20 ∨ i = 21 ∨ i = 22 ∨ i = 23 ∨ i = 24 ∨ i = 25 ∨ i = 26 ∨ i = 27 ∨ i = 28 ∨ i = 29 ∨ i = 30 ∨ i = 31 ∨ i = 32 ∨ i = 33 ∨ i = 34 := by omega
 rcases hc with rfl | rfl | rfl | rfl | rfl | rfl | rfl | rfl | rfl | rfl | rfl | rfl | rfl | rfl | rfl | rfl | rfl | rfl | rfl | rfl | rfl | rfl | rfl | rfl | rfl | rfl | rfl | rfl | rfl | rfl | rfl | rfl | rfl | rfl | rfl
 ·exact SX.s0 X ok
 ·exact SX.s1 X ok
 ·exact SX.s2 X ok
 ·exact SX.s3 X ok
 ·exact SX.s4 X ok
 ·exact SX.s5 X ok
 ·exact SX.s6 X ok
 ·exact SX.s7 X ok
 ·exact SX.s8 X ok
 ·exact SX.s9 X ok
 ·exact SX.s10 X ok
 ·exact SX.s11 X ok
 ·exact SX.s12 X ok
 ·exact SX.s13 X ok
 ·exact SX.s14 X ok
 ·exact SX.s15 X ok
 ·exact SX.s16 X ok
 ·exact SX.s17 X ok
 ·exact SX.s18 X ok
 ·exact SX.s19 X ok
 ·exact SX.s20 X ok
 ·exact SX.s21 X ok
 ·exact SX.s22 X ok
 ·exact SX.s23 X ok
 ·exact SX.s24 X ok
 ·exact SX.s25 X ok
 ·exact SX.s26 X ok
 ·exact SX.s27 X ok
 ·exact SX.s28 X ok
 ·exact SX.s29 X ok
 ·exact SX.s30 X ok
 ·exact SX.s31 X ok
 ·exact SX.s32 X ok
 ·exact SX.s33 X ok
 ·exact SX.s34 X ok
theorem SX.puts (X : SX) (γ : Nat → Value) (a0 : Act) : putsL (valG SX.av X.val0 γ) (opsOf 9 Try.f56).toList a0 = ((((((((((((((((((((((((((((((((((a0.put (some 27) (.pointer (some ⟨X.bx, 0, none⟩))).put (some 28) (.slice X.va X.vn X.vc)).put (some 29) (.pointer (some ⟨X.ba, 0, none⟩))).put (some 30) (.int .i64 X.A)).put (some 31) (.pointer (some ⟨X.bp, 0, none⟩))).put (some 32) (.int .i64 X.x)).put (some 33) (.int .i64 (fmV X.A X.x))).put (some 34) (.pointer (some ⟨X.ba, 2, none⟩))).put (some 35) (.int .i64 X.C)).put (some 36) (.pointer (some ⟨X.bp, 1, none⟩))).put (some 37) (.int .i64 X.y)).put (some 38) (.int .i64 (fmV X.C X.y))).put (some 39) (.int .i64 (fmV X.A X.x + fmV X.C X.y))).put (some 40) (.pointer (some ⟨X.ba, 4, none⟩))).put (some 41) (.int .i64 X.E)).put (some 42) (.int .i64 (fmV X.A X.x + fmV X.C X.y + X.E))).put (some 43) (.pointer (some ⟨X.ba, 1, none⟩))).put (some 44) (.int .i64 X.B)).put (some 45) (.pointer (some ⟨X.bp, 0, none⟩))).put (some 46) (.int .i64 X.x)).put (some 47) (.int .i64 (fmV X.B X.x))).put (some 48) (.pointer (some ⟨X.ba, 3, none⟩))).put (some 49) (.int .i64 X.D)).put (some 50) (.pointer (some ⟨X.bp, 1, none⟩))).put (some 51) (.int .i64 X.y)).put (some 52) (.int .i64 (fmV X.D X.y))).put (some 53) (.int .i64 (fmV X.B X.x + fmV X.D X.y))).put (some 54) (.pointer (some ⟨X.ba, 5, none⟩))).put (some 55) (.int .i64 X.F)).put (some 56) (.int .i64 (fmV X.B X.x + fmV X.D X.y + X.F))).put (some 57) (.agg #[.int .i64 (fmV X.A X.x + fmV X.C X.y + X.E), .int .i64 (fmV X.B X.x + fmV X.D X.y + X.F)])).put (some 58) (γ 0)).put (some 59) (γ 1)).put (some 60) (.pointer (some ⟨X.bx, 0, none⟩))) := by kernel_rfl
theorem SX.run (X : SX) (ok : SXOk X) {Q : PQ} (w : World) (h0 : X.Wd 0 (fun _ => undef) w.drew) (hend : ∀ (γ : Nat → Value) w', X.Wd 3 γ w' → Q .normal ((((((((((((((((((((((((((((((((((X.a0.put (some 27) (.pointer (some ⟨X.bx, 0, none⟩))).put (some 28) (.slice X.va X.vn X.vc)).put (some 29) (.pointer (some ⟨X.ba, 0, none⟩))).put (some 30) (.int .i64 X.A)).put (some 31) (.pointer (some ⟨X.bp, 0, none⟩))).put (some 32) (.int .i64 X.x)).put (some 33) (.int .i64 (fmV X.A X.x))).put (some 34) (.pointer (some ⟨X.ba, 2, none⟩))).put (some 35) (.int .i64 X.C)).put (some 36) (.pointer (some ⟨X.bp, 1, none⟩))).put (some 37) (.int .i64 X.y)).put (some 38) (.int .i64 (fmV X.C X.y))).put (some 39) (.int .i64 (fmV X.A X.x + fmV X.C X.y))).put (some 40) (.pointer (some ⟨X.ba, 4, none⟩))).put (some 41) (.int .i64 X.E)).put (some 42) (.int .i64 (fmV X.A X.x + fmV X.C X.y + X.E))).put (some 43) (.pointer (some ⟨X.ba, 1, none⟩))).put (some 44) (.int .i64 X.B)).put (some 45) (.pointer (some ⟨X.bp, 0, none⟩))).put (some 46) (.int .i64 X.x)).put (some 47) (.int .i64 (fmV X.B X.x))).put (some 48) (.pointer (some ⟨X.ba, 3, none⟩))).put (some 49) (.int .i64 X.D)).put (some 50) (.pointer (some ⟨X.bp, 1, none⟩))).put (some 51) (.int .i64 X.y)).put (some 52) (.int .i64 (fmV X.D X.y))).put (some 53) (.int .i64 (fmV X.B X.x + fmV X.D X.y))).put (some 54) (.pointer (some ⟨X.ba, 5, none⟩))).put (some 55) (.int .i64 X.F)).put (some 56) (.int .i64 (fmV X.B X.x + fmV X.D X.y + X.F))).put (some 57) (.agg #[.int .i64 (fmV X.A X.x + fmV X.C X.y + X.E), .int .i64 (fmV X.B X.x + fmV X.D X.y + X.F)])).put (some 58) (γ 0)).put (some 59) (γ 1)).put (some 60) (.pointer (some ⟨X.bx, 0, none⟩))) w') : (Code.region 9 (opsOf 9 Try.f56) true).wp Try.prog Q X.a0 w := by
 refine reg_act (acts := SX.acts) (av := SX.av) (val0 := X.val0) (Wd := X.Wd) (by kernel_rfl) (by kernel_rfl) (by rw [SX.size]; decide) (fun i hi => SX.steps X ok i hi) _ h0 ?_
 intro γ w' h
 rw [SX.puts]
 exact hend γ w' h
theorem B2.new (w : World) (x y : Value) (t : TypeId) : B2 w.heap.size x y (w.alloc (.cells #[x, y] t)) :=
 ⟨by rw [World.cell?_alloc_at _ _ _ _ rfl]; rfl, by rw [World.cell?_alloc_at _ _ _ _ rfl]; rfl, fun o => World.frozen?_alloc_at _ _ _ _ rfl⟩
def B6 (b : Nat) (A : Aff) (w : World) : Prop := w.cell? ⟨b, 0, none⟩ = some (.int .i64 A.a) ∧ w.cell? ⟨b, 1, none⟩ = some (.int .i64 A.b) ∧ w.cell? ⟨b, 2, none⟩ = some (.int .i64 A.c) ∧ w.cell? ⟨b, 3, none⟩ = some (.int .i64 A.d) ∧ w.cell? ⟨b, 4, none⟩ = some (.int .i64 A.e) ∧ w.cell? ⟨b, 5, none⟩ = some (.int .i64 A.f)
theorem B6.nw {b : Nat} {A : Aff} {w w' : World} (h : B6 b A w) (k : Nw w w') : B6 b A w' := by
 have hb := World.block_lt_of_cell? w ⟨b, 0, none⟩ h.1
 have e := fun o => (bcell k).1 b o hb
 exact ⟨(e _).trans h.1, (e _).trans h.2.1, (e _).trans h.2.2.1, (e _).trans h.2.2.2.1, (e _).trans h.2.2.2.2.1, (e _).trans h.2.2.2.2.2⟩
theorem B6.new (w : World) (A : Aff) (t : TypeId) : B6 w.heap.size A (w.alloc (.cells #[.int .i64 A.a, .int .i64 A.b, .int .i64 A.c, .int .i64 A.d, .int .i64 A.e, .int .i64 A.f] t)) := by
 have e : ∀ o, (w.alloc (.cells #[.int .i64 A.a, .int .i64 A.b, .int .i64 A.c, .int .i64 A.d, .int .i64 A.e, .int .i64 A.f] t)).cell? ⟨w.heap.size, o, none⟩ = (#[.int .i64 A.a, .int .i64 A.b, .int .i64 A.c, .int .i64 A.d, .int .i64 A.e, .int .i64 A.f] : Array Value)[o]? := fun o => World.cell?_alloc_at _ _ _ _ rfl
 exact ⟨e 0, e 1, e 2, e 3, e 4, e 5⟩
theorem wraps {A : Aff} (hg : A.ok = true) (x y : Int) : IntKind.i64.wrap (fmV A.a x + fmV A.c y) = fmV A.a x + fmV A.c y ∧ IntKind.i64.wrap (fmV A.a x + fmV A.c y + A.e) = fmV A.a x + fmV A.c y + A.e ∧ IntKind.i64.wrap (fmV A.b x + fmV A.d y) = fmV A.b x + fmV A.d y ∧ IntKind.i64.wrap (fmV A.b x + fmV A.d y + A.f) = fmV A.b x + fmV A.d y + A.f := by
 have hb := Aff.ok_bd hg
 have b1 := fmV_bd A.a x
 have b2 := fmV_bd A.c y
 have b3 := fmV_bd A.b x
 have b4 := fmV_bd A.d y
 exact ⟨IntWalk.i64_in _ ⟨by omega, by omega⟩, IntWalk.i64_in _ ⟨by omega, by omega⟩, IntWalk.i64_in _ ⟨by omega, by omega⟩, IntWalk.i64_in _ ⟨by omega, by omega⟩⟩
set_option maxRecDepth 100000 in
set_option maxHeartbeats 8000000 in
theorem sl9move (w : World) (A : Aff) (a : Option Addr) (c : Nat) (l : List LD) (hg : A.ok = true) (hl : l.length ≤ 1048576) (hm : ∀ i, i < l.length → (lnAt l i).pts.length ≤ 600) (hr : Lines w a l) :
  Calls Try.prog 56 #[A.v, .slice a l.length c] w fun e w' => ∃ v it, e = .returned v ∧ OwnLn w' w.heap.size v it ∧ it.map (·.2) = l.map (mvLD A) ∧ Nw w w' := by
 have HR : Hid (Lines w a l) := hr
 have H6 : Hid (∀ i, i < l.length → (lnAt l i).pts.length ≤ 600) := hm
 have HWR : Hid _ := fun x y => wraps hg x y
 clear hg hr hm
 obtain ⟨a1, b1, c1, d1, e1, f1⟩ := A
 unfold Aff.v
 simp only at HWR ⊢
 obtain ⟨A, hA⟩ : ∃ A : Aff, A = ⟨a1, b1, c1, d1, e1, f1⟩ := ⟨_, rfl⟩
 have HAA : Hid (A = ⟨a1, b1, c1, d1, e1, f1⟩) := hA
 have HB0 : Hid (B6 w.heap.size A (w.alloc (.cells #[.int .i64 a1, .int .i64 b1, .int .i64 c1, .int .i64 d1, .int .i64 e1, .int .i64 f1] 31))) := by
  show B6 _ _ _
  rw [hA]
  exact B6.new w ⟨a1, b1, c1, d1, e1, f1⟩ _
 rw [← hA]
 clear hA
 obtain ⟨R, hR⟩ : ∃ R : Nat → List LD, (fun k => (l.take k).map (mvLD A)) = R := ⟨_, rfl⟩
 have HRk : Hid (∀ k, (l.take k).map (mvLD A) = R k) := fun k => by rw [← hR]
 have hRl : l.map (mvLD A) = R l.length := by rw [← HRk.out, List.take_length]
 rw [hRl]
 clear hR hRl
 go_enter Try.func56, Try.ntmps56
 go_wp2
 go_loopw [5, 13] (fun o i wr => ∃ k : Nat, k ≤ l.length ∧ i = .int .i64 (k : Int) ∧ (∃ it : Its, OwnLn wr (w.heap.size + 1) o it ∧ it.map (·.2) = R k) ∧ Nw w wr ∧ B6 w.heap.size A wr ∧ w.heap.size < wr.heap.size) (fun _ i _ => l.length - (intOf i).toNat)
 case atStart =>
  exact ⟨0, Nat.zero_le _, rfl, ⟨[], OwnLn.nil _ _, by rw [← HRk.out]; rfl⟩, (Below.refl _ _).alloc (Nat.le_refl _) _, HB0.out, by simp⟩
 case round =>
  obtain ⟨k, hk, rfl, ⟨it, hot, hit⟩, hw, hb6, hsz⟩ := hrel
  have HW : Hid (Nw w wr) := hw
  have HB6 : Hid (B6 w.heap.size A wr) := hb6
  have HIT : Hid (it.map (·.2) = R k) := hit
  obtain ⟨oa, on, oc, ho⟩ := OwnQ.slice hot.own
  subst ho
  have HOT : Hid (OwnLn wr (w.heap.size + 1) (.slice oa on oc) it) := hot
  clear hw hb6 hit hot
  by_cases hlt : k < l.length
  ·rcases Lines.nw HR.out HW.out with h | ⟨b, off, rfl, hb, hc⟩
   ·rw [h] at hlt; simp at hlt
   obtain ⟨⟨pa, pc, p0, pp⟩, p1⟩ := hc k hlt
   clear hc
   have HE : Hid (R (k + 1) = R k ++ [mvLD A (lnAt l k)]) := by show _ = _; rw [← HRk.out, ← HRk.out]; exact mapL_step A l k hlt
   have hn6 := H6.out k hlt
   have HLn : Hid (it.length + 1 ≤ 10000000) := by
    show _ ≤ _
    have := congrArg List.length HIT.out
    rw [← HRk.out] at this
    simp at this
    omega
   generalize lnAt l k = x at *
   obtain ⟨ps, cl⟩ := x
   simp only at p0 p1 pp hn6
   have HPP : Hid (Pts wr pa ps) := pp
   clear pp
   obtain ⟨P, hP⟩ : ∃ P : Nat → List Pnt, (fun k => (ps.take k).map (mvP A)) = P := ⟨_, rfl⟩
   have HPk : Hid (∀ k, (ps.take k).map (mvP A) = P k) := fun k => by rw [← hP]
   have HEE : Hid (mvLD A ⟨ps, cl⟩ = ⟨P ps.length, cl⟩) := by show _ = _; rw [← HPk.out, List.take_length]; rfl
   clear hP
   obtain ⟨W1, hW1⟩ : ∃ W1, wr = W1 := ⟨_, rfl⟩
   rw [hW1] at HW HB6 HOT HPP p0 p1 hb hsz ⊢
   clear hW1
   obtain ⟨n, hn⟩ : ∃ n, ps.length = n := ⟨_, rfl⟩
   rw [hn] at HEE p0 hn6
   have HN : Hid (ps.length = n) := hn
   clear hn
   go_wp2
   go_loopw [23] (fun i wr => ∃ j : Nat, j ≤ n ∧ i = .int .i64 (j : Int) ∧ (∃ v, LnB (W1.heap.size + 1) wr v (P j) cl) ∧ Nw W1 wr) (fun i _ => n - (intOf i).toNat)
   case atStart =>
    have hl0 := LnB.new (W1.alloc (.cells #[.slice pa n pc, .bool cl] 55)) 55 cl
    rw [World.size_alloc] at hl0
    have e0 : P 0 = [] := by rw [← HPk.out]; rfl
    exact ⟨0, Nat.zero_le _, rfl, ⟨.slice none 0 0, by rw [e0]; exact hl0⟩, ((Below.refl _ _).alloc (Nat.le_refl _) _).alloc (by simp) _⟩
   case round =>
    obtain ⟨j, hj, rfl, ⟨v, hlb⟩, hw2⟩ := hrel
    obtain ⟨va, vc, hv, _⟩ := hlb.own.pts
    have HLV : Hid ((P j).length ≤ 600) := by show _ ≤ _; rw [← HPk.out]; simp; omega
    generalize (P j).length = vn at hv
    subst hv
    have HL : Hid (LnB (W1.heap.size + 1) wr (.slice va vn vc) (P j) cl) := hlb
    have HW2 : Hid (Nw W1 wr) := hw2
    clear hlb hw2
    by_cases hlt2 : j < n
    ·rcases Pts.nw HPP.out HW2.out with h | ⟨b2, off2, rfl, hb2, hc⟩
     ·rw [← HN.out, h] at hlt2; simp at hlt2
     obtain ⟨r0, r1⟩ := hc j (by rw [HN.out]; exact hlt2)
     clear hc
     have HE2 : Hid (P (j + 1) = P j ++ [mvP A (ptAt ps j)]) := by show _ = _; rw [← HPk.out, ← HPk.out]; exact map_step A ps j (by rw [HN.out]; exact hlt2)
     rw [HAA.out] at HE2
     generalize ptAt ps j = q at *
     obtain ⟨x, y⟩ := q
     unfold mvP at HE2
     simp only at HE2 r0 r1
     obtain ⟨x1, x2, x3, x4⟩ := HWR.out x y
     have N0 : Hid (Nw wr (wr.alloc (.cells #[.int .i64 x, .int .i64 y] 27))) := (Below.refl _ _).alloc (Nat.le_refl _) _
     have hbx : Hid (B2 wr.heap.size (.int .i64 x) (.int .i64 y) (wr.alloc (.cells #[.int .i64 x, .int .i64 y] 27))) := B2.new wr _ _ _
     go_wp2
     obtain ⟨W2, hW2⟩ : ∃ W2, wr.alloc (.cells #[.int .i64 x, .int .i64 y] 27) = W2 := ⟨_, rfl⟩
     rw [hW2] at N0 hbx ⊢
     clear hW2
     have N2 : Hid (Nw wr W2.drew) := N0.out.drew
     have HL2 : Hid (LnB (W1.heap.size + 1) W2.drew (.slice va vn vc) (P j) cl) := LnB.nw HL.out N2.out
     have h6 : B6 w.heap.size A W2.drew := B6.nw HB6.out (Nw.trans HW2.out N2.out)
     rw [HAA.out] at h6
     obtain ⟨q0, q1, q2, q3, q4, q5⟩ := h6
     refine reg_change (ops' := opsOf 9 Try.f56) (by kernel_rfl) ?_
     refine SX.run ⟨W1.heap.size + 1, w.heap.size, wr.heap.size, a1, b1, c1, d1, e1, f1, x, y, va, vn, vc, P j, cl, W2.drew, _⟩ ⟨HL2.out, by have := HLV.out; show (P j).length + 1 ≤ 1000000; omega, q0, q1, q2, q3, q4, q5, hbx.out.1, hbx.out.2.1, x1, x2, x3, x4, rfl, rfl, rfl, rfl⟩ W2 (Kp.refl _) ?_
     rintro γ w9 ⟨w7, w8, g9, c9, k1, g1, o1, y1, rfl⟩
     simp only at g1 o1 y1 k1 ⊢
     rw [g1] at o1 y1 ⊢
     have HK1 : Hid (Nw wr w7) := Nw.trans N2.out k1.nw
     have HPT : Hid _ := LnB.put (HL2.out.nw k1.nw) y1 o1
     clear o1 y1 k1 g1 q0 q1 q2 q3 q4 q5 x1 x2 x3 x4
     go_wp2
     go_roundw
     case rel =>
      refine ⟨j + 1, by omega, by go_num, ⟨_, by rw [HE2.out]; exact HPT.out.1⟩, ?_⟩
      exact Below.trans (Nw.trans HW2.out HK1.out) (Below.mono HPT.out.2 (Nat.le_succ _))
     case measure => simp [intOf]; omega
    ·have hj2 : j = n := by omega
     subst hj2
     have c0 := HL.out.c0
     have c1' := HL.out.c1
     have n1 : Nw wr (wr.alloc (.cells #[.slice va vn vc, .bool cl] 55)) := (Below.refl _ _).alloc (Nat.le_refl _) _
     have k1 : Nw W1 (wr.alloc (.cells #[.slice va vn vc, .bool cl] 55)) := Nw.trans HW2.out n1
     have HU : Hid (OwnP (wr.alloc (.cells #[.slice va vn vc, .bool cl] 55)) W1.heap.size (.slice va vn vc) (⟨P j, cl⟩ : LD).pts) := OwnQ.base (OwnQ.nw HL.out.own n1) (by omega)
     have HQ : Hid (OwnQ 55 (wr.alloc (.cells #[.slice va vn vc, .bool cl] 55)) (w.heap.size + 1) (.slice oa on oc) (vLn it)) := OwnQ.nw HOT.out.own k1
     have H1 : Hid (∀ x ∈ flat2 (vLn [((.slice va vn vc, ⟨P j, cl⟩) : Value × LD)]), x.oneCell' = true) := one_cells HU.out
     have HI : Hid (∀ i, i < (vLn [((.slice va vn vc, ⟨P j, cl⟩) : Value × LD)]).length → (wr.alloc (.cells #[.slice va vn vc, .bool cl] 55)).cell? ⟨wr.heap.size, 0 + i * 2, none⟩ = some (vvAt (vLn [((.slice va vn vc, ⟨P j, cl⟩) : Value × LD)]) i).1 ∧ (wr.alloc (.cells #[.slice va vn vc, .bool cl] 55)).cell? ⟨wr.heap.size, 0 + i * 2 + 1, none⟩ = some (vvAt (vLn [((.slice va vn vc, ⟨P j, cl⟩) : Value × LD)]) i).2) := fun i hi => by
      have : i = 0 := by simp [vLn] at hi; omega
      subst this
      simp [vLn, vvAt]
     have HK : Hid (Nw W1 (wr.alloc (.cells #[.slice va vn vc, .bool cl] 55))) := k1
     have hsz2 : Hid (w.heap.size + 1 ≤ (wr.alloc (.cells #[.slice va vn vc, .bool cl] 55)).heap.size) := by show _ ≤ _; have := Below.size k1; omega
     clear n1 k1
     go_wp2_with (at_builtin; (refine wpl_q 55 32 32 (.slice none 0 0) (.bool false) 32 under_lns under_lns info_line (by decide) rfl (wr.alloc (.cells #[.slice va vn vc, .bool cl] 55)) (.tmp 62) (.tmp 64) rfl (w.heap.size + 1) (.slice oa on oc) (vLn it) (vLn [((.slice va vn vc, ⟨P j, cl⟩) : Value × LD)]) rfl HQ.out wr.heap.size 0 1 1 rfl rfl HI.out H1.out (by rw [vLn_len]; simp) ?cl hsz2.out rfl ?_))
     case cl => rw [vLn_len, vLn_len]; have := HLn.out; simpa using this
     intro g' c' w5 h2 h3
     rw [← vLn_append] at h2
     rw [vLn_len] at h2 h3 ⊢
     have H2 : Hid _ := OwnLn.put HOT.out HK.out (Nat.succ_le_of_lt hsz) HU.out h2 h3
     have hbl : Below w.heap.size (wr.alloc (.cells #[.slice va vn vc, .bool cl] 55)) w5 := Ext.below h3 (fun g e => Nat.le_of_succ_le (OwnQ.lt HQ.out g e).1) (by have := hsz2.out; omega)
     have hwk : Nw w (wr.alloc (.cells #[.slice va vn vc, .bool cl] 55)) := Nw.trans HW.out HK.out
     have N5 : Hid (Nw w w5) := Below.trans hwk hbl
     have B5 : Hid (B6 w.heap.size A w5) := by
      have h6 := B6.nw HB6.out HK.out
      have hne : (Value.slice oa on oc).ownBlock ≠ some w.heap.size := fun e => by have := (OwnQ.lt HQ.out _ e).1; omega
      have e := fun o => Ext.cell h3 (by have := hsz2.out; omega) hne o
      exact ⟨(e _).trans h6.1, (e _).trans h6.2.1, (e _).trans h6.2.2.1, (e _).trans h6.2.2.2.1, (e _).trans h6.2.2.2.2.1, (e _).trans h6.2.2.2.2.2⟩
     have S5 : Hid (w.heap.size < w5.heap.size) := World.block_lt_of_cell? w5 ⟨w.heap.size, 0, none⟩ B5.out.1
     clear h2 h3 hbl hwk
     go_wp2
     go_roundw
     case rel =>
      refine ⟨k + 1, by omega, by go_num, ⟨_, H2.out, ?_⟩, N5.out, B5.out, S5.out⟩
      rw [HE.out, List.map_append, HIT.out, HEE.out]; rfl
     case measure => simp [intOf]; omega
  ·have hk2 : k = l.length := by omega
   subst hk2
   go_wp2
   go_ret
   exact ⟨_, it, rfl, OwnLn.base HOT.out (Nat.le_succ _), HIT.out, HW.out⟩
theorem mvsB_eq (A : Aff) (ps : List Pnt) : mvsB A ps = (ptsB ps && ptsB (ps.map (mvP A))) := by
 unfold mvsB ptsB
 induction ps with
 | nil => rfl
 | cons p ps ih =>
  simp only [List.all_cons, List.map_cons, ih, mvB]
  cases ptB p <;> cases ptB (mvP A p) <;> cases ps.all ptB <;> simp
theorem mvlB_eq (A : Aff) (l : List LD) : mvlB A l = (fixL l && fixL (l.map (mvLD A))) := by
 unfold mvlB fixL
 induction l with
 | nil => rfl
 | cons x l ih =>
  simp only [List.all_cons, List.map_cons, ih]
  rw [mvsB_eq]
  have e : (mvLD A x).pts = x.pts.map (mvP A) := rfl
  rw [e]
  generalize (l.all fun x => ptsB x.pts) = u
  generalize ((l.map (mvLD A)).all fun x => ptsB x.pts) = v
  cases ptsB x.pts <;> cases ptsB (x.pts.map (mvP A)) <;> cases u <;> cases v <;> rfl
theorem manyL_map (A : Aff) (l : List LD) : manyL (l.map (mvLD A)) = manyL l := by
 unfold manyL
 induction l with
 | nil => rfl
 | cons x l ih => simp only [List.map_cons, List.sum_cons, ih, mvLD, List.length_map]
theorem good_mv {A : Aff} (hok : A.ok = true) (l : List LD) : (goodL l && goodL (l.map (mvLD A))) = mvAll A l := by
 unfold goodL mvAll
 rw [manyL_map, mvlB_eq, hok]
 cases fixL l <;> cases fixL (l.map (mvLD A)) <;> cases decide (manyL l ≤ 600) <;> rfl
set_option maxRecDepth 100000 in
set_option maxHeartbeats 4000000 in
theorem smove (w : World) (A : Aff) (a : Option Addr) (c : Nat) (l : List LD) (hl : l.length ≤ 1048576) (hm : manyL l ≤ 1048576) (hr : Lines w a l) :
  Calls Try.prog 14 #[A.v, .slice a l.length c] w fun e w' => ∃ v it, e = .returned (.tuple #[v, .bool (mvAll A l)]) ∧ OwnLn w' w.heap.size v it ∧ it.map (·.2) = mvR A l ∧ Nw w w' := by
 obtain ⟨V, hV⟩ : ∃ V, mvAll A l = V := ⟨_, rfl⟩
 obtain ⟨M, hM⟩ : ∃ M, mvR A l = M := ⟨_, rfl⟩
 have HM : Hid ((if V = true then l.map (mvLD A) else []) = M) := by show _ = _; rw [← hM, ← hV]; rfl
 have HV : Hid (mvAll A l = V) := hV
 rw [hV, hM]
 clear hV hM
 have HG : Hid _ := fun w => sgoodAff w A.a A.b A.c A.d A.e A.f
 have HP : Hid (∀ w : World, Lines w a l → _) := fun w h => sgoodL w a c l hl hm h
 have HR : Hid (Lines w a l) := hr
 have e1 : gA A.a A.b A.c A.d A.e A.f = A.ok := rfl
 rw [e1] at HG
 clear e1 hr
 cases hg : A.ok with
 | false =>
  rw [hg] at HG
  have HF : Hid (V = false) := by show _ = _; rw [← HV.out]; unfold mvAll; rw [hg]; rfl
  clear hg
  obtain ⟨a1, b1, c1, d1, e1, f1⟩ := A
  unfold Aff.v
  simp only at HG ⊢
  go_enter Try.func14, Try.ntmps14
  go_wp2_with fail
  refine Calls.mono (HG.out _) ?_
  rintro e w1 ⟨rfl, k1⟩
  have K1 : Hid (Nw w w1) := nw_box k1.nw
  clear k1
  go_wp2
  refine bodyPost_ret (v := .tuple #[.slice none 0 0, .bool false]) (by simp [results, Try.results14, go_sem]) rfl ⟨_, [], by rw [HF.out], OwnLn.nil _ _, ?_, K1.out⟩
  rw [← HM.out, HF.out]; rfl
 | true =>
  rw [hg] at HG
  have HOK : Hid (A.ok = true) := hg
  clear hg
  have HVV : Hid ((goodL l && goodL (l.map (mvLD A))) = V) := by show _ = _; rw [good_mv HOK.out, HV.out]
  cases h6 : goodL l with
  | true =>
   rw [h6] at HP
   have h600 : manyL l ≤ 600 := by
    unfold goodL at h6
    rw [Bool.and_eq_true, decide_eq_true_eq] at h6
    exact h6.2
   have HV2 : Hid (goodL (l.map (mvLD A)) = V) := by show _ = _; rw [← HVV.out, h6]; rfl
   have HE : Hid (∀ w : World, Lines w a l → _) := fun w h => sl9move w A a c l HOK.out hl (fun i hi => Nat.le_trans (manyL_at l i hi) h600) h
   have HP2 : Hid (∀ (w : World) (a : Option Addr) (c : Nat), Lines w a (l.map (mvLD A)) → _) := fun w a c h => sgoodL w a c (l.map (mvLD A)) (by rw [List.length_map]; exact hl) (by rw [manyL_map]; exact hm) h
   rw [HV2.out] at HP2
   clear HV HV2 HOK HVV h6 h600
   obtain ⟨N, hN⟩ : ∃ N, l.map (mvLD A) = N := ⟨_, rfl⟩
   rw [hN] at HM HE HP2
   clear hN
   obtain ⟨a1, b1, c1, d1, e1, f1⟩ := A
   unfold Aff.v at HE ⊢
   simp only at HG HE ⊢
   go_enter Try.func14, Try.ntmps14
   go_wp2_with fail
   refine Calls.mono (HG.out _) ?_
   rintro e w1 ⟨rfl, k1⟩
   have bcs : ∀ o, w1.cell? ⟨w.heap.size, o, none⟩ = (#[.int .i64 a1, .int .i64 b1, .int .i64 c1, .int .i64 d1, .int .i64 e1, .int .i64 f1] : Array Value)[o]? := fun o => (k1.cells.1 _ _ (by simp)).trans (World.cell?_alloc_at _ _ _ _ rfl)
   have q0 := bcs 0
   have q1 := bcs 1
   have q2 := bcs 2
   have q3 := bcs 3
   have q4 := bcs 4
   have q5 := bcs 5
   have K1 : Hid (Nw w w1) := nw_box k1.nw
   clear k1 bcs
   go_wp2_with fail
   refine Calls.mono (HP.out _ (Lines.nw HR.out K1.out)) ?_
   rintro e w2 ⟨rfl, k2⟩
   have p0 := kp_at k2 q0
   have p1 := kp_at k2 q1
   have p2 := kp_at k2 q2
   have p3 := kp_at k2 q3
   have p4 := kp_at k2 q4
   have p5 := kp_at k2 q5
   have K2 : Hid (Nw w w2) := Nw.trans K1.out k2.nw
   clear k2 q0 q1 q2 q3 q4 q5
   go_wp2_with fail
   refine Calls.mono (HE.out _ (Lines.nw HR.out K2.out)) ?_
   rintro e w3 ⟨v, it, rfl, ho, hi, k3⟩
   have K3 : Hid (Nw w w3) := Nw.trans K2.out k3
   have hrow := ho.row
   rw [hi] at hrow
   obtain ⟨va, vc, rfl, hln⟩ := hrow
   have HO : Hid (OwnLn w3 w.heap.size (.slice va N.length vc) it) := OwnLn.base ho (Below.size K2.out)
   have HI : Hid (it.map (·.2) = N) := hi
   have HLN : Hid (Lines w3 va N) := hln
   clear ho hi k3 hln p0 p1 p2 p3 p4 p5
   cases V with
   | false =>
    go_wp2_with fail
    refine Calls.mono (HP2.out _ _ _ HLN.out) ?_
    rintro e w4 ⟨rfl, k4⟩
    have K4 : Hid (Nw w w4) := Nw.trans K3.out k4.nw
    clear k4
    go_wp2
    refine bodyPost_ret (v := .tuple #[.slice none 0 0, .bool false]) (by simp [results, Try.results14, go_sem]) rfl ⟨_, [], rfl, OwnLn.nil _ _, ?_, K4.out⟩
    rw [← HM.out]; rfl
   | true =>
    go_wp2_with fail
    refine Calls.mono (HP2.out _ _ _ HLN.out) ?_
    rintro e w4 ⟨rfl, k4⟩
    have K4 : Hid (Nw w w4) := Nw.trans K3.out k4.nw
    have O4 : Hid (OwnLn w4 w.heap.size (.slice va N.length vc) it) := OwnLn.nw HO.out k4.nw
    clear k4
    go_wp2
    refine bodyPost_ret (v := .tuple #[.slice va N.length vc, .bool true]) (by simp [results, Try.results14, go_sem]) rfl ⟨_, it, rfl, O4.out, ?_, K4.out⟩
    rw [← HM.out]; exact HI.out
  | false =>
   rw [h6] at HP
   have HF : Hid (V = false) := by show _ = _; rw [← HVV.out, h6]; rfl
   obtain ⟨a1, b1, c1, d1, e1, f1⟩ := A
   unfold Aff.v
   simp only at HG ⊢
   go_enter Try.func14, Try.ntmps14
   go_wp2_with fail
   refine Calls.mono (HG.out _) ?_
   rintro e w1 ⟨rfl, k1⟩
   have K1 : Hid (Nw w w1) := nw_box k1.nw
   clear k1
   go_wp2_with fail
   refine Calls.mono (HP.out _ (Lines.nw HR.out K1.out)) ?_
   rintro e w2 ⟨rfl, k2⟩
   have K2 : Hid (Nw w w2) := Nw.trans K1.out k2.nw
   clear k2
   go_wp2
   refine bodyPost_ret (v := .tuple #[.slice none 0 0, .bool false]) (by simp [results, Try.results14, go_sem]) rfl ⟨_, [], by rw [HF.out], OwnLn.nil _ _, ?_, K2.out⟩
   rw [← HM.out, HF.out]; rfl
theorem nw_drwN (w : World) (n : Nat) : Nw w (w.drewN n) := ⟨rfl, rfl, rfl, Nat.le_refl _, fun _ _ => rfl⟩
set_option maxRecDepth 100000 in
set_option maxHeartbeats 8000000 in
theorem sameLines_any (w : World) (a1 a2 : Option Addr) (c1 c2 : Nat) (l : List LD) (hl : l.length ≤ 1048576) (hla : lenL l) (h1 : Lines w a1 l) (h2 : Lines w a2 l) :
  Calls Try.prog 15 #[.slice a1 l.length c1, .slice a2 l.length c2] w fun e w' => e = .returned (.bool true) ∧ Nw w w' := by
 have H1 : Hid (Lines w a1 l) := h1
 have H2 : Hid (Lines w a2 l) := h2
 have HLA : Hid (lenL l) := hla
 clear h1 h2 hla
 go_enter Try.func15, Try.ntmps15
 go_wp2
 go_loopw [14] (fun i wr => ∃ k n : Nat, k ≤ l.length ∧ i = .int .i64 k ∧ wr = w.drewN n) (fun i _ => l.length - (intOf i).toNat)
 case atStart => exact ⟨0, 0, Nat.zero_le _, rfl, rfl⟩
 case round =>
  obtain ⟨k, n, hk, rfl, rfl⟩ := hrel
  by_cases hlt : k < l.length
  ·rcases H1.out with h | ⟨b1, o1, rfl, hb1, hc1⟩
   ·rw [h] at hlt; simp at hlt
   rcases H2.out with h | ⟨b2, o2, rfl, hb2, hc2⟩
   ·rw [h] at hlt; simp at hlt
   obtain ⟨⟨pa, pc, q0, hp⟩, q1⟩ := hc1 k hlt
   obtain ⟨⟨ra, rc, r0, hr⟩, r1⟩ := hc2 k hlt
   have i1 : (0 : Int) ≤ (k : Int) := by omega
   have i2 : (k : Int) < (l.length : Int) := by omega
   have hlk := HLA.out k hlt
   obtain ⟨V, hV⟩ : ∃ V, V = w.drewN n := ⟨_, rfl⟩
   have hcell : ∀ a, V.cell? a = w.cell? a := fun a => by rw [hV]; rfl
   replace q0 := (hcell _).trans q0
   replace q1 := (hcell _).trans q1
   replace r0 := (hcell _).trans r0
   replace r1 := (hcell _).trans r1
   have HP : Hid (Pts V pa (lnAt l k).pts) := by show Pts _ _ _; rw [hV]; exact hp.nw (nw_drwN w n)
   have HR : Hid (Pts V ra (lnAt l k).pts) := by show Pts _ _ _; rw [hV]; exact hr.nw (nw_drwN w n)
   clear hc1 hc2 hp hr
   generalize (lnAt l k).closed = cl at *
   generalize (lnAt l k).pts = p at *
   have hcc : (cl != cl) = false := by cases cl <;> rfl
   rw [← hV]
   have HV : Hid (V = w.drewN n) := hV
   have Q0 : Hid _ := q0
   have R0 : Hid _ := r0
   clear hV hcell
   go_wp2_with fail
   go_quiet (fail)
   go_wp2
   clear q0 q1 r0 r1
   go_loopw [49] (fun i wr => ∃ j m : Nat, j ≤ p.length ∧ i = .int .i64 j ∧ wr = V.drewN m) (fun i _ => p.length - (intOf i).toNat)
   case atStart => exact ⟨0, _, Nat.zero_le _, rfl, rfl⟩
   case round =>
    obtain ⟨j, m, hj, rfl, rfl⟩ := hrel
    by_cases hjl : j < p.length
    ·rcases HP.out with h | ⟨g1, s1, rfl, _, hc1⟩
     ·rw [h] at hjl; simp at hjl
     rcases HR.out with h | ⟨g2, s2, rfl, _, hc2⟩
     ·rw [h] at hjl; simp at hjl
     obtain ⟨x1, y1⟩ := hc1 j hjl
     obtain ⟨x2, y2⟩ := hc2 j hjl
     have q0 := Q0.out
     have r0 := R0.out
     have j1 : (0 : Int) ≤ (j : Int) := by omega
     have j2 : (j : Int) < (p.length : Int) := by omega
     generalize ptAt p j = t at *
     obtain ⟨tx, ty⟩ := t
     simp only at x1 y1 x2 y2
     obtain ⟨U, hU⟩ : ∃ U, U = V.drewN m := ⟨_, rfl⟩
     have hcu : ∀ a, U.cell? a = V.cell? a := fun a => by rw [hU]; rfl
     replace q0 := (hcu _).trans q0
     replace r0 := (hcu _).trans r0
     replace x1 := (hcu _).trans x1
     replace x2 := (hcu _).trans x2
     replace y1 := (hcu _).trans y1
     replace y2 := (hcu _).trans y2
     rw [← hU]
     have HU : Hid (U = V.drewN m) := hU
     clear hU hcu hc1 hc2
     go_wp2_with fail
     go_quiet (fail)
     go_wp2
     go_roundw
     case rel => exact ⟨j + 1, _, by omega, by go_num, by rw [HU.out]; exact World.drewN_drewN _ _ _⟩
     case measure => simp [intOf]; omega
    ·have hje : j = p.length := by omega
     have d1 : decide ((j : Int) < (p.length : Int)) = false := by simp; omega
     go_wp2
     go_roundw
     case rel => exact ⟨k + 1, _, by omega, by go_num, by rw [HV.out]; exact World.drewN_drewN _ _ _⟩
     case measure => simp [intOf]; omega
  ·go_wp2
   go_ret
   exact ⟨rfl, nw_drwN _ _⟩
end Go.Proofs.Ytdjemnbdaddegaa
