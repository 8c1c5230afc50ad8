/-
  EllipseOf of both; each theorem names its conditions.
-/
import Derived.Test.YtfdjjbgcaojcnaaGreatJAJ
import Derived.Test.YtfdjjbgcaojcnaaGreatJAC
import Derived.Test.YtfdjjbgcaojcnaaGreatJAB
import Derived.Deep.DeepCutAuto
import Derived.Deep.CutBlock
import Derived.Test.YtfdjjbgcaojcnaaGreatJAG
import Derived.Test.YtfdjjbgcaojcnaaGreatJAE
import Derived.Test.YtfdjjbgcaojcnaaGreatJAF
import Derived.Test.YtfdjjbgcaojcnaaGreatJAA
namespace Go.Proofs.YtfdjjbgcaojcnaaGreat
open Go.ChangeShapes Go.WideShapes Go.ChangeAt Go.RowKit
set_option linter.unusedVariables false
set_option maxHeartbeats 1000000 in
theorem iclosed_yes (w : World) (a : Option Addr) (c : Nat) (l : List Pnt) (hl : l.length ≤ 1048576) (hr : Pts w a l) (hg : ptsB l = true) :
  Calls Tryz.prog 126 #[.slice a l.length c] w fun e w' => e = .returned (.tuple #[.agg #[.slice a l.length c, .bool true], .bool true]) ∧ Kp w w' := by
 have HG : Hid _ := fun (w : World) (h : Pts w a l) => igoodPs w a c l hl h
 rw [hg] at HG
 have H1 : Hid _ := hr.nw ((Below.refl w.heap.size w).alloc (Nat.le_refl _) (.cells #[.slice none 0 0, .bool false] 25))
 clear hr hg
 go_enter Tryz.func126, Tryz.ntmps126
 go_wp2_with fail
 refine Calls.mono (HG.out _ H1.out) ?_
 rintro e w1 ⟨rfl, k1⟩
 have K1 : Hid _ := k1
 clear k1
 obtain ⟨z0, z1, zf, hz⟩ := box2 w w1 K1.out
 go_wp2
 obtain ⟨y0, y1⟩ := set2 w1 w.heap.size (.slice a l.length c) (.bool true) z0 z1
 refine bodyPost_ret (v := .tuple #[.agg #[.slice a l.length c, .bool true], .bool true]) (by simp [results, Tryz.results126, go_sem, y0, y1]) rfl ⟨rfl, ?_⟩
 exact ((kp_box K1.out).setCell (Nat.le_refl _) _).setCell (Nat.le_refl _) _
set_option maxHeartbeats 1000000 in
theorem iclosed_no (w : World) (a : Option Addr) (c : Nat) (l : List Pnt) (hl : l.length ≤ 1048576) (hr : Pts w a l) (hg : ptsB l = false) :
  Calls Tryz.prog 126 #[.slice a l.length c] w fun e w' => e = .returned (.tuple #[.agg #[.slice none 0 0, .bool false], .bool false]) ∧ Kp w w' := by
 have HG : Hid _ := fun (w : World) (h : Pts w a l) => igoodPs w a c l hl h
 rw [hg] at HG
 have H1 : Hid _ := hr.nw ((Below.refl w.heap.size w).alloc (Nat.le_refl _) (.cells #[.slice none 0 0, .bool false] 25))
 clear hr hg
 go_enter Tryz.func126, Tryz.ntmps126
 go_wp2_with fail
 refine Calls.mono (HG.out _ H1.out) ?_
 rintro e w1 ⟨rfl, k1⟩
 have K1 : Hid _ := k1
 clear k1
 obtain ⟨z0, z1, zf, hz⟩ := box2 w w1 K1.out
 go_wp2
 obtain ⟨y0, y1⟩ := set2 w1 w.heap.size (.slice none 0 0) (.bool false) z0 z1
 refine bodyPost_ret (v := .tuple #[.agg #[.slice none 0 0, .bool false], .bool false]) (by simp [results, Tryz.results126, go_sem, y0, y1]) rfl ⟨rfl, ?_⟩
 exact ((kp_box K1.out).setCell (Nat.le_refl _) _).setCell (Nat.le_refl _) _
theorem iclosed (w : World) (B : Nat) (v : Value) (l : List Pnt) (hl : l.length ≤ 1048576) (hr : OwnP w B v l) :
  Calls Tryz.prog 126 #[v] w fun e w' => ∃ v', e = .returned (.tuple #[.agg #[v', .bool (ptsB l)], .bool (ptsB l)]) ∧ OwnP w' B v' (if ptsB l = true then l else []) ∧ Kp w w' := by
 obtain ⟨a, c, rfl, hp⟩ := hr.pts
 cases hg : ptsB l with
 | true =>
  refine (iclosed_yes w a c l hl hp hg).mono ?_
  rintro e w' ⟨rfl, k⟩
  exact ⟨_, rfl, hr.nw k.nw, k⟩
 | false =>
  refine (iclosed_no w a c l hl hp hg).mono ?_
  rintro e w' ⟨rfl, k⟩
  exact ⟨_, rfl, OwnP.nil _ _, k⟩
def okEl (cx cy rx ry : Int) : Bool := [cx, cy, rx, ry].all fixB && (decide (0 ≤ rx) && decide (0 ≤ ry))
def elV (cx cy rx ry : Int) : List Pnt × Bool := if okEl cx cy rx ry = true ∧ ptsB (roundsP cx cy rx ry 0 32) = true then (roundsP cx cy rx ry 0 32, true) else ([], false)
def LnSays (f : FuncId) (args : Array Value) (r : List Pnt × Bool) : Prop := ∀ w, Calls Tryz.prog f args w fun e w' => ∃ v, e = .returned (.tuple #[.agg #[v, .bool r.2], .bool r.2]) ∧ OwnP w' w.heap.size v r.1 ∧ Nw w w'
abbrev elA (cx cy rx ry : Int) : Array Value := #[.int .i64 cx, .int .i64 cy, .int .i64 rx, .int .i64 ry]
theorem iall4 (cx cy rx ry : Int) (w : World) (b : Nat) (h0 : w.cell? ⟨b, 0, none⟩ = some (.int .i64 cx)) (h1 : w.cell? ⟨b, 1, none⟩ = some (.int .i64 cy)) (h2 : w.cell? ⟨b, 2, none⟩ = some (.int .i64 rx)) (h3 : w.cell? ⟨b, 3, none⟩ = some (.int .i64 ry)) :
  Calls Tryz.prog 125 #[.slice (some ⟨b, 0, none⟩) 4 4] w fun e w' => e = .returned (.bool ([cx, cy, rx, ry].all fixB)) ∧ w' = w :=
 iall_any w b 0 4 [cx, cy, rx, ry] (by simp) (fun i hi => by
  have : i = 0 ∨ i = 1 ∨ i = 2 ∨ i = 3 := by simp at hi; omega
  rcases this with rfl | rfl | rfl | rfl
  ·exact h0
  ·exact h1
  ·exact h2
  ·exact h3)
set_option maxHeartbeats 2000000 in
theorem iellipse (cx cy rx ry : Int) : LnSays 118 (elA cx cy rx ry) (elV cx cy rx ry) := by
 intro w
 have HA : Hid _ := fun w b h0 h1 h2 h3 => iall4 cx cy rx ry w b h0 h1 h2 h3
 unfold elA
 cases hf : [cx, cy, rx, ry].all fixB with
 | false =>
  rw [hf] at HA
  have e : elV cx cy rx ry = ([], false) := by unfold elV okEl; rw [if_neg (fun h => by rw [hf] at h; cases h.1)]
  rw [e]
  clear e hf
  go_enter Tryz.func118, Tryz.ntmps118
  go_wp2_with fail
  refine Calls.mono (HA.out _ _ (by simp) (by simp) (by simp) (by simp)) ?_
  rintro e w1 ⟨rfl, rfl⟩
  go_wp2
  refine bodyPost_ret (v := .tuple #[.agg #[.slice none 0 0, .bool false], .bool false]) (by simp [results, Tryz.results118, go_sem]) rfl ⟨_, rfl, OwnP.nil _ _, ?_⟩
  exact ((Kp.refl w).alloc _ _ |>.alloc _ _).nw
 | true =>
  rw [hf] at HA
  have hfx : fixB cx = true ∧ fixB cy = true ∧ fixB rx = true ∧ fixB ry = true := by simpa using hf
  have bcx := fixB_iff.1 hfx.1
  have bcy := fixB_iff.1 hfx.2.1
  by_cases hm : 0 ≤ rx ∧ 0 ≤ ry
  ·have hmin1 : decide (rx < 0) = false := decide_eq_false (by omega)
   have hmin2 : decide (ry < 0) = false := decide_eq_false (by omega)
   have e : elV cx cy rx ry = (if ptsB (roundsP cx cy rx ry 0 32) = true then roundsP cx cy rx ry 0 32 else [], ptsB (roundsP cx cy rx ry 0 32)) := by
    unfold elV okEl
    rw [hf, decide_eq_true hm.1, decide_eq_true hm.2]
    cases ptsB (roundsP cx cy rx ry 0 32) <;> rfl
   rw [e]
   have HS : Hid _ := fun w => istretch w cx cy rx ry 0 31 (by omega) (by omega) (by omega) (by omega) (by omega) (by omega)
   have HL : Hid ((roundsP cx cy rx ry 0 32).length ≤ 1048576) := by show _ ≤ _; rw [roundsP_len]; omega
   rw [show 31 + 1 - 0 = 32 from rfl] at HS
   clear e hf
   generalize roundsP cx cy rx ry 0 32 = l at *
   have HC : Hid _ := fun (w : World) (B : Nat) (v : Value) (h : OwnP w B v l) => iclosed w B v l HL.out h
   obtain ⟨rl, hrl⟩ : ∃ rl, (if ptsB l = true then l else []) = rl := ⟨_, rfl⟩
   rw [hrl] at HC ⊢
   generalize ptsB l = ok at *
   clear hrl
   by_cases hmn : ry < rx
   all_goals
    go_enter Tryz.func118, Tryz.ntmps118
    go_wp2_with fail
    refine Calls.mono (HA.out _ _ (by simp) (by simp) (by simp) (by simp)) ?_
    rintro e w1 ⟨rfl, rfl⟩
    go_wp2_with fail
    refine Calls.mono (HS.out _) ?_
    rintro e w2 ⟨v, rfl, o2, n2⟩
    have O2 : Hid _ := o2
    have N2 : Hid _ := n2
    clear o2 n2
    go_wp2_with fail
    refine Calls.mono (HC.out _ _ v O2.out) ?_
    rintro e w3 ⟨v', rfl, o3, k3⟩
    have N3 : Hid (Nw (w.alloc (.cells #[.slice none 0 0, .bool false] 25)) w3) := Nw.trans (((Kp.refl _).alloc _ _ |>.alloc _ _).nw) (Nw.trans N2.out k3.nw)
    have O3 : Hid (OwnP w3 (w.heap.size + 1) v' rl) := OwnQ.base o3 (by simp)
    obtain ⟨va, vc, hv, _⟩ := o3.pts
    generalize rl.length = vn at hv
    subst hv
    clear o3 k3 N2 O2
    obtain ⟨z0, z1, zf, hz⟩ := nbox2 w w3 N3.out
    go_wp2
    obtain ⟨y0, y1⟩ := set2 w3 w.heap.size (.slice va vn vc) (.bool ok) z0 z1
    have hne : (Value.slice va vn vc).ownBlock ≠ some w.heap.size := fun e => by have := (OwnQ.lt O3.out _ e).1; omega
    refine bodyPost_ret (v := .tuple #[.agg #[.slice va vn vc, .bool ok], .bool ok]) (by simp [results, Tryz.results118, go_sem, y0, y1]) rfl ⟨_, rfl, ?_, ?_⟩
    ·exact OwnQ.base (OwnQ.far (OwnQ.far O3.out _ _ _ hne) _ _ _ hne) (by omega)
    ·exact (Below.setCell (nw_box N3.out) (Nat.le_refl _) _).setCell (Nat.le_refl _) _
  ·have hmin : (if ry < rx then ry else rx) < 0 := by split <;> omega
   have e : elV cx cy rx ry = ([], false) := by
    unfold elV okEl
    rw [if_neg (fun h => ?_)]
    simp at h; omega
   rw [e]
   clear e hf
   by_cases hmn : ry < rx
   all_goals
    go_enter Tryz.func118, Tryz.ntmps118
    go_wp2_with fail
    refine Calls.mono (HA.out _ _ (by simp) (by simp) (by simp) (by simp)) ?_
    rintro e w1 ⟨rfl, rfl⟩
    go_wp2
    refine bodyPost_ret (v := .tuple #[.agg #[.slice none 0 0, .bool false], .bool false]) (by simp [results, Tryz.results118, go_sem]) rfl ⟨_, rfl, OwnP.nil _ _, ?_⟩
    exact ((Kp.refl w).alloc _ _ |>.alloc _ _).nw
theorem ring_end {w W w3 w4 : World} {br : Nat} {cs : Array Value} {T : TypeId} {x v : Value} {l : List Pnt} (hw : Kp w W) (hb : w.heap.size ≤ br) (z0 : W.cell? ⟨br, 0, none⟩ = some x) (z1 : ∃ u, W.cell? ⟨br, 1, none⟩ = some (.bool u)) (k3 : Kp W.drew w3) (k4 : Kp (w3.alloc (.cells cs T)) w4)
  (ho : ∀ B, B ≤ w3.heap.size → OwnP (w3.alloc (.cells cs T)) B v l) : ((w4.setCell ⟨br, 0, none⟩ v).setCell ⟨br, 1, none⟩ (.bool true)).cell? ⟨br, 0, none⟩ = some v ∧ ((w4.setCell ⟨br, 0, none⟩ v).setCell ⟨br, 1, none⟩ (.bool true)).cell? ⟨br, 1, none⟩ = some (.bool true) ∧ OwnP ((w4.setCell ⟨br, 0, none⟩ v).setCell ⟨br, 1, none⟩ (.bool true)) w.heap.size v l ∧ Kp w ((w4.setCell ⟨br, 0, none⟩ v).setCell ⟨br, 1, none⟩ (.bool true)) := by
 obtain ⟨u, z1⟩ := z1
 have hlt := World.block_lt_of_cell? W ⟨br, 0, none⟩ z0
 simp only at hlt
 replace k3 : Kp W w3 := undrew k3
 have h3 := Kp.size k3
 have k4' : Kp W w4 := Kp.trans k3 (Kp.trans ((Kp.refl w3).alloc _ _) k4)
 obtain ⟨y0, y1⟩ := set2 w4 br v (.bool true) (rq_at k4' z0) (rq_at k4' z1)
 have o4 : OwnP w4 (br + 1) v l := OwnP.nw (ho (br + 1) (by omega)) k4.nw
 have hne : v.ownBlock ≠ some br := fun e => by have := (OwnQ.lt o4 _ e).1; omega
 exact ⟨y0, y1, OwnQ.base (OwnQ.far (OwnQ.far o4 _ _ _ hne) _ _ _ hne) (by omega), ((Kp.trans hw k4').setCell hb _).setCell hb _⟩
def RingSays (f : FuncId) (args : Array Value) (l : List Pnt) : Prop := ∀ w, Calls Tryz.prog f args w fun e w' => ∃ v, e = .returned (.agg #[v, .bool true]) ∧ OwnP w' w.heap.size v l ∧ Nw w w'
abbrev sgV (fx fy tx ty sx sy : Int) : Value := .agg #[.int .i64 fx, .int .i64 fy, .int .i64 tx, .int .i64 ty, .int .i64 sx, .int .i64 sy]
theorem iband (fx fy tx ty sx sy : Int) (h0 : wid fx) (h1 : wid fy) (h2 : wid tx) (h3 : wid ty) (h4 : wid sx) (h5 : wid sy) : RingSays 90 #[sgV fx fy tx ty sx sy] [(fx + sx, fy + sy), (tx + sx, ty + sy), (tx - sx, ty - sy), (fx - sx, fy - sy)] := by
 intro w
 obtain ⟨W, hW⟩ : ∃ W, (w.alloc (.cells #[.int .i64 fx, .int .i64 fy, .int .i64 tx, .int .i64 ty, .int .i64 sx, .int .i64 sy] 112)).alloc (.cells #[.slice none 0 0, .bool false] 25) = W := ⟨_, rfl⟩
 have c0 : W.cell? ⟨w.heap.size, 0, none⟩ = some (.int .i64 fx) := by rw [← hW]; simp
 have c1 : W.cell? ⟨w.heap.size, 1, none⟩ = some (.int .i64 fy) := by rw [← hW]; simp
 have c2 : W.cell? ⟨w.heap.size, 2, none⟩ = some (.int .i64 tx) := by rw [← hW]; simp
 have c3 : W.cell? ⟨w.heap.size, 3, none⟩ = some (.int .i64 ty) := by rw [← hW]; simp
 have c4 : W.cell? ⟨w.heap.size, 4, none⟩ = some (.int .i64 sx) := by rw [← hW]; simp
 have c5 : W.cell? ⟨w.heap.size, 5, none⟩ = some (.int .i64 sy) := by rw [← hW]; simp
 have z0 : W.cell? ⟨w.heap.size + 1, 0, none⟩ = some (.slice none 0 0) := by rw [← hW]; simp
 have z1 : W.cell? ⟨w.heap.size + 1, 1, none⟩ = some (.bool false) := by rw [← hW]; simp
 have zf : ∀ o, W.frozen? ⟨w.heap.size + 1, o, none⟩ = false := fun o => by rw [← hW]; exact World.frozen?_alloc_at _ _ _ _ (by simp)
 have KW : Hid (Kp w W) := by show Kp w W; rw [← hW]; exact ((Kp.refl w).alloc _ _).alloc _ _
 have HW : Hid (_ = W) := hW
 clear hW
 go_enter Tryz.func90, Tryz.ntmps90
 go_wp2_with fail
 rw [HW.out]
 refine reg_change (ops' := opsOf 1 Tryz.f90) (by kernel_rfl) ?_
 refine BND.run ⟨fx, fy, tx, ty, sx, sy, w.heap.size, w.heap.size + 1, W.drew, _⟩ ⟨c0, c1, c2, c3, c4, c5, h0, h1, h2, h3, h4, h5, z0, ⟨_, z1⟩, zf, rfl, rfl, rfl⟩ W (Kp.refl _) ?_
 rintro γ w2 ⟨w3, w4, k3, k4, rfl⟩
 obtain ⟨y0, y1, o, k⟩ := ring_end (v := .slice (some ⟨w3.heap.size, 0, none⟩) 4 4) KW.out (Nat.le_succ _) z0 ⟨_, z1⟩ k3 k4 (fun B hB => ownp4 w3 B hB _ _ _ _ _ _ _ _)
 have O : Hid _ := o
 have K : Hid _ := k
 clear o k c0 c1 c2 c3 c4 c5 z0 z1 zf k3 k4 KW HW
 simp only [Act.put, List.setIfInBounds_toArray, List.set_cons_zero, List.set_cons_succ]
 go_wp2
 refine bodyPost_ret (v := .agg #[.slice (some ⟨w3.heap.size, 0, none⟩) 4 4, .bool true]) (by simp [results, Tryz.results90, go_sem, y0, y1]) rfl ⟨_, rfl, O.out, Kp.nw K.out⟩
def crossV (ux uy vx vy : Int) : Int := wrap64 (wrap64 (ux * vy) - wrap64 (uy * vx))
abbrev cnV (ax ay bx by' sx sy cx cy dx dy tx ty h : Int) : Value := .agg #[.int .i64 ax, .int .i64 ay, .int .i64 bx, .int .i64 by', .int .i64 sx, .int .i64 sy, .int .i64 cx, .int .i64 cy, .int .i64 dx, .int .i64 dy, .int .i64 tx, .int .i64 ty, .int .i64 h]
theorem icross (w : World) (ax ay bx by' sx sy cx cy dx dy tx ty h : Int) (h0 : wid ax) (h1 : wid ay) (h2 : wid bx) (h3 : wid by') (h4 : wid cx) (h5 : wid cy) (h6 : wid dx) (h7 : wid dy) :
  Calls Tryz.prog 108 #[cnV ax ay bx by' sx sy cx cy dx dy tx ty h] w fun e w' => e = .returned (.int .i64 (crossV (bx - ax) (by' - ay) (dx - cx) (dy - cy))) ∧ Kp w w' := by
 obtain ⟨W, hW⟩ : ∃ W, (w.alloc (.cells #[.int .i64 ax, .int .i64 ay, .int .i64 bx, .int .i64 by', .int .i64 sx, .int .i64 sy, .int .i64 cx, .int .i64 cy, .int .i64 dx, .int .i64 dy, .int .i64 tx, .int .i64 ty, .int .i64 h] 128)) = W := ⟨_, rfl⟩
 have c0 : W.cell? ⟨w.heap.size, 0, none⟩ = some (.int .i64 ax) := by rw [← hW]; simp
 have c1 : W.cell? ⟨w.heap.size, 1, none⟩ = some (.int .i64 ay) := by rw [← hW]; simp
 have c2 : W.cell? ⟨w.heap.size, 2, none⟩ = some (.int .i64 bx) := by rw [← hW]; simp
 have c3 : W.cell? ⟨w.heap.size, 3, none⟩ = some (.int .i64 by') := by rw [← hW]; simp
 have c4 : W.cell? ⟨w.heap.size, 4, none⟩ = some (.int .i64 sx) := by rw [← hW]; simp
 have c5 : W.cell? ⟨w.heap.size, 5, none⟩ = some (.int .i64 sy) := by rw [← hW]; simp
 have c6 : W.cell? ⟨w.heap.size, 6, none⟩ = some (.int .i64 cx) := by rw [← hW]; simp
 have c7 : W.cell? ⟨w.heap.size, 7, none⟩ = some (.int .i64 cy) := by rw [← hW]; simp
 have c8 : W.cell? ⟨w.heap.size, 8, none⟩ = some (.int .i64 dx) := by rw [← hW]; simp
 have c9 : W.cell? ⟨w.heap.size, 9, none⟩ = some (.int .i64 dy) := by rw [← hW]; simp
 have c10 : W.cell? ⟨w.heap.size, 10, none⟩ = some (.int .i64 tx) := by rw [← hW]; simp
 have c11 : W.cell? ⟨w.heap.size, 11, none⟩ = some (.int .i64 ty) := by rw [← hW]; simp
 have c12 : W.cell? ⟨w.heap.size, 12, none⟩ = some (.int .i64 h) := by rw [← hW]; simp
 have KW : Hid (Kp w W) := by show Kp w W; rw [← hW]; exact (Kp.refl w).alloc _ _
 have HW : Hid (_ = W) := hW
 clear hW
 go_enter Tryz.func108, Tryz.ntmps108
 go_wp2_with fail
 rw [HW.out]
 refine reg_change (ops' := opsOf 1 Tryz.f108) (by kernel_rfl) ?_
 refine CRS.run ⟨ax, ay, bx, by', cx, cy, dx, dy, w.heap.size, W.drew, _⟩ ⟨c0, c1, c2, c3, c6, c7, c8, c9, h0, h1, h2, h3, h4, h5, h6, h7, rfl, rfl⟩ W (Kp.refl _) ?_
 intro w2 g0 g1 k2 _ _ _ y0 y1 y2 y3
 have K : Hid (Kp w w2) := Kp.trans KW.out (undrew k2)
 clear k2 KW HW c0 c1 c2 c3 c4 c5 c6 c7 c8 c9 c10 c11 c12
 obtain ⟨ux, hux⟩ : ∃ u, bx - ax = u := ⟨_, rfl⟩
 obtain ⟨uy, huy⟩ : ∃ u, by' - ay = u := ⟨_, rfl⟩
 obtain ⟨vx, hvx⟩ : ∃ u, dx - cx = u := ⟨_, rfl⟩
 obtain ⟨vy, hvy⟩ : ∃ u, dy - cy = u := ⟨_, rfl⟩
 simp only [hux, huy, hvx, hvy] at y0 y1 y2 y3 ⊢
 simp only [Act.put, List.setIfInBounds_toArray, List.set_cons_zero, List.set_cons_succ]
 go_wp2
 refine bodyPost_ret (v := .int .i64 (crossV ux uy vx vy)) (by simp [results, Tryz.results108, go_sem, crossV]) rfl ⟨rfl, K.out⟩
def bevelL (ax ay bx by' sx sy cx cy dx dy tx ty : Int) : List Pnt := if crossV (bx - ax) (by' - ay) (dx - cx) (dy - cy) < 0 then [(cx, cy), (cx + sx, cy + sy), (cx + tx, cy + ty)] else [(cx, cy), (cx - sx, cy - sy), (cx - tx, cy - ty)]
set_option maxHeartbeats 2000000 in
theorem ibevel (ax ay bx by' sx sy cx cy dx dy tx ty h : Int) (h0 : wid ax) (h1 : wid ay) (h2 : wid bx) (h3 : wid by') (h4 : wid cx) (h5 : wid cy) (h6 : wid dx) (h7 : wid dy) (h8 : wid sx) (h9 : wid sy) (h10 : wid tx) (h11 : wid ty) : RingSays 92 #[cnV ax ay bx by' sx sy cx cy dx dy tx ty h] (bevelL ax ay bx by' sx sy cx cy dx dy tx ty) := by
 intro w
 have HC : Hid (∀ w, _) := fun w => icross w ax ay bx by' sx sy cx cy dx dy tx ty h h0 h1 h2 h3 h4 h5 h6 h7
 unfold bevelL
 generalize crossV (bx - ax) (by' - ay) (dx - cx) (dy - cy) = r at HC ⊢
 obtain ⟨W, hW⟩ : ∃ W, ((w.alloc (.cells #[.int .i64 ax, .int .i64 ay, .int .i64 bx, .int .i64 by', .int .i64 sx, .int .i64 sy, .int .i64 cx, .int .i64 cy, .int .i64 dx, .int .i64 dy, .int .i64 tx, .int .i64 ty, .int .i64 h] 128)).alloc (.cells #[.slice none 0 0, .bool false] 25)).alloc (.cells #[.int .i64 cx, .int .i64 cy] 34) = W := ⟨_, rfl⟩
 have c4 : W.cell? ⟨w.heap.size, 4, none⟩ = some (.int .i64 sx) := by rw [← hW]; exact rq_at ((Kp.refl _).alloc _ _) (by simp)
 have c5 : W.cell? ⟨w.heap.size, 5, none⟩ = some (.int .i64 sy) := by rw [← hW]; exact rq_at ((Kp.refl _).alloc _ _) (by simp)
 have c10 : W.cell? ⟨w.heap.size, 10, none⟩ = some (.int .i64 tx) := by rw [← hW]; exact rq_at ((Kp.refl _).alloc _ _) (by simp)
 have c11 : W.cell? ⟨w.heap.size, 11, none⟩ = some (.int .i64 ty) := by rw [← hW]; exact rq_at ((Kp.refl _).alloc _ _) (by simp)
 have z0 : W.cell? ⟨w.heap.size + 1, 0, none⟩ = some (.slice none 0 0) := by rw [← hW]; exact rq_at ((Kp.refl _).alloc _ _) (by simp)
 have z1 : W.cell? ⟨w.heap.size + 1, 1, none⟩ = some (.bool false) := by rw [← hW]; exact rq_at ((Kp.refl _).alloc _ _) (by simp)
 have p0 : W.cell? ⟨w.heap.size + 1 + 1, 0, none⟩ = some (.int .i64 cx) := by rw [← hW, World.cell?_alloc_at _ _ _ _ (by simp)]; rfl
 have p1 : W.cell? ⟨w.heap.size + 1 + 1, 1, none⟩ = some (.int .i64 cy) := by rw [← hW, World.cell?_alloc_at _ _ _ _ (by simp)]; rfl
 have zf : ∀ o, W.frozen? ⟨w.heap.size + 1, o, none⟩ = false := fun o => by rw [← hW, World.frozen?_alloc_old _ _ _ (by simp)]; exact World.frozen?_alloc_at _ _ _ _ (by simp)
 have KW : Hid (Kp w W) := by show Kp w W; rw [← hW]; exact (((Kp.refl w).alloc _ _).alloc _ _).alloc _ _
 have HW : Hid (_ = W) := hW
 clear hW
 by_cases hr : r < 0
 ·rw [if_pos hr]
  go_enter Tryz.func92, Tryz.ntmps92
  go_wp2_with fail
  rw [HW.out]
  refine Calls.mono (HC.out _) ?_
  rintro e w1 ⟨rfl, k1⟩
  have K1 : Hid (Kp w w1) := Kp.trans KW.out k1
  replace c4 := rq_at k1 c4
  replace c5 := rq_at k1 c5
  replace c10 := rq_at k1 c10
  replace c11 := rq_at k1 c11
  replace z0 := rq_at k1 z0
  replace z1 := rq_at k1 z1
  replace p0 := rq_at k1 p0
  replace p1 := rq_at k1 p1
  replace zf : ∀ o, w1.frozen? ⟨w.heap.size + 1, o, none⟩ = false := fun o => (k1.cells.2 _ _).trans (zf o)
  clear k1 KW HW HC
  go_wp2_with fail
  refine reg_change (ops' := opsOf 3 Tryz.f92) (by kernel_rfl) ?_
  refine BV3.run ⟨cx, cy, sx, sy, tx, ty, w.heap.size, w.heap.size + 1 + 1, w.heap.size + 1, w1.drew, _⟩ ⟨p0, p1, c4, c5, c10, c11, h4, h5, h8, h9, h10, h11, z0, ⟨_, z1⟩, zf, rfl, rfl, rfl, rfl⟩ w1 (Kp.refl _) ?_
  rintro γ w2 ⟨w3, w4, k3, k4, rfl⟩
  obtain ⟨y0, y1, o, k⟩ := ring_end (v := .slice (some ⟨w3.heap.size, 0, none⟩) 3 3) K1.out (Nat.le_succ _) z0 ⟨_, z1⟩ k3 k4 (fun B hB => ownp3 w3 B hB _ _ _ _ _ _)
  have O : Hid _ := o
  have K : Hid _ := k
  clear o k c4 c5 c10 c11 p0 p1 z0 z1 zf k3 k4 K1
  simp only [Act.put, List.setIfInBounds_toArray, List.set_cons_zero, List.set_cons_succ]
  go_wp2
  refine bodyPost_ret (v := .agg #[.slice (some ⟨w3.heap.size, 0, none⟩) 3 3, .bool true]) (by simp [results, Tryz.results92, go_sem, y0, y1]) rfl ⟨_, rfl, O.out, Kp.nw K.out⟩
 ·rw [if_neg hr]
  go_enter Tryz.func92, Tryz.ntmps92
  go_wp2_with fail
  rw [HW.out]
  refine Calls.mono (HC.out _) ?_
  rintro e w1 ⟨rfl, k1⟩
  have K1 : Hid (Kp w w1) := Kp.trans KW.out k1
  replace c4 := rq_at k1 c4
  replace c5 := rq_at k1 c5
  replace c10 := rq_at k1 c10
  replace c11 := rq_at k1 c11
  replace z0 := rq_at k1 z0
  replace z1 := rq_at k1 z1
  replace p0 := rq_at k1 p0
  replace p1 := rq_at k1 p1
  replace zf : ∀ o, w1.frozen? ⟨w.heap.size + 1, o, none⟩ = false := fun o => (k1.cells.2 _ _).trans (zf o)
  clear k1 KW HW HC
  go_wp2_with fail
  refine reg_change (ops' := opsOf 4 Tryz.f92) (by kernel_rfl) ?_
  refine BV4.run ⟨cx, cy, sx, sy, tx, ty, w.heap.size, w.heap.size + 1 + 1, w.heap.size + 1, w1.drew, _⟩ ⟨p0, p1, c4, c5, c10, c11, h4, h5, h8, h9, h10, h11, z0, ⟨_, z1⟩, zf, rfl, rfl, rfl, rfl⟩ w1 (Kp.refl _) ?_
  rintro γ w2 ⟨w3, w4, k3, k4, rfl⟩
  obtain ⟨y0, y1, o, k⟩ := ring_end (v := .slice (some ⟨w3.heap.size, 0, none⟩) 3 3) K1.out (Nat.le_succ _) z0 ⟨_, z1⟩ k3 k4 (fun B hB => ownp3 w3 B hB _ _ _ _ _ _)
  have O : Hid _ := o
  have K : Hid _ := k
  clear o k c4 c5 c10 c11 p0 p1 z0 z1 zf k3 k4 K1
  simp only [Act.put, List.setIfInBounds_toArray, List.set_cons_zero, List.set_cons_succ]
  go_wp2
  refine bodyPost_ret (v := .agg #[.slice (some ⟨w3.heap.size, 0, none⟩) 3 3, .bool true]) (by simp [results, Tryz.results92, go_sem, y0, y1]) rfl ⟨_, rfl, O.out, Kp.nw K.out⟩
theorem nw_at {W w : World} {b o : Nat} {v : Value} (k : Nw W w) (h : W.cell? ⟨b, o, none⟩ = some v) : w.cell? ⟨b, o, none⟩ = some v := ((bcell k).1 _ _ (World.block_lt_of_cell? W ⟨b, o, none⟩ h)).trans h
theorem ownln1 {w : World} {B : Nat} {u : Value} {ld : LD} (hB : B ≤ w.heap.size) (hu : OwnP w B u ld.pts) : OwnLn (w.alloc (.cells #[u, .bool ld.closed] 25)) B (.slice (some ⟨w.heap.size, 0, none⟩) 1 1) [(u, ld)] := by
 refine ⟨World.ownsRow_lit w #[u, .bool ld.closed] 1 hB (by unfold maxLen; omega) (by simp), fun i hi => ?_, fun i hi b hb e => ?_, fun i j hij hi hj => ?_⟩
 ·have : i = 0 := by simpa using hi
  subst this
  exact OwnP.nw hu ((Below.refl _ _).alloc (Nat.le_refl _) _)
 ·have : i = 0 := by simpa using hi
  subst this
  have h1 := (OwnQ.lt hu b hb).2
  have h2 : w.heap.size = b := by injection e
  omega
 ·simp at hi hj; omega
theorem iroundAt (px py h : Int) (H : elV px py h h = (roundsP px py h h 0 32, true)) : RingSays 107 #[.agg #[.int .i64 px, .int .i64 py], .int .i64 h] (roundsP px py h h 0 32) := by
 intro w
 have HE : Hid _ := iellipse px py h h
 rw [H] at HE
 generalize roundsP px py h h 0 32 = l at *
 obtain ⟨W, hW⟩ : ∃ W, (w.alloc (.cells #[.int .i64 px, .int .i64 py] 34)).alloc (.cells #[.slice none 0 0, .bool false] 25) = W := ⟨_, rfl⟩
 have z0 : W.cell? ⟨w.heap.size + 1, 0, none⟩ = some (.slice none 0 0) := by rw [← hW]; simp
 have z1 : W.cell? ⟨w.heap.size + 1, 1, none⟩ = some (.bool false) := by rw [← hW]; simp
 have zf : ∀ o, W.frozen? ⟨w.heap.size + 1, o, none⟩ = false := fun o => by rw [← hW]; exact World.frozen?_alloc_at _ _ _ _ (by simp)
 have hs : W.heap.size = w.heap.size + 1 + 1 := by rw [← hW]; simp
 have KW : Hid (Kp w W) := by show Kp w W; rw [← hW]; exact ((Kp.refl w).alloc _ _).alloc _ _
 have HW : Hid (_ = W) := hW
 clear hW H
 go_enter Tryz.func107, Tryz.ntmps107
 go_wp2_with fail
 rw [HW.out]
 refine Calls.mono (HE.out _) ?_
 rintro e w1 ⟨v, rfl, o1, n1⟩
 obtain ⟨va, vc, hv, _⟩ := o1.pts
 have N1 : Hid (Nw w w1) := Nw.trans KW.out.nw n1
 have O1 : Hid (OwnP w1 (w.heap.size + 1 + 1) v l) := by rw [← hs]; exact o1
 have hlt : w.heap.size + 1 < w1.heap.size := by have := Below.size n1; omega
 replace z0 := nw_at n1 z0
 replace z1 := nw_at n1 z1
 replace zf : ∀ o, w1.frozen? ⟨w.heap.size + 1, o, none⟩ = false := fun o => ((bcell n1).2 _ _ (by omega)).trans (zf o)
 clear o1 n1 KW HW HE hs
 generalize l.length = vn at hv
 subst hv
 obtain ⟨w2, hw2⟩ : ∃ w2, w1.alloc (.cells #[.slice va vn vc, .bool true] 25) = w2 := ⟨_, rfl⟩
 have k2 : Nw w1 w2 := by rw [← hw2]; exact (Below.refl _ _).alloc (Nat.le_refl _) _
 have y0 := nw_at k2 z0
 have y1 := nw_at k2 z1
 have yf : ∀ o, w2.frozen? ⟨w.heap.size + 1, o, none⟩ = false := fun o => ((bcell k2).2 _ _ hlt).trans (zf o)
 have x0 : w2.cell? ⟨w1.heap.size, 0, none⟩ = some (.slice va vn vc) := by rw [← hw2]; simp
 have x1 : w2.cell? ⟨w1.heap.size, 1, none⟩ = some (.bool true) := by rw [← hw2]; simp
 have H2 : Hid (_ = w2) := hw2
 have K2 : Hid (Nw w1 w2) := k2
 clear hw2 k2 z0 z1 zf
 go_upto_region 2 with fail
 rw [H2.out]
 clear H2
 go_wp2
 obtain ⟨u0, u1⟩ := set2 w2 (w.heap.size + 1) (.slice va vn vc) (.bool true) y0 y1
 have o2 : OwnP w2 (w.heap.size + 1 + 1) (.slice va vn vc) l := OwnP.nw O1.out K2.out
 have hne : (Value.slice va vn vc).ownBlock ≠ some (w.heap.size + 1) := fun e => by have := (OwnQ.lt o2 _ e).1; omega
 refine bodyPost_ret (v := .agg #[.slice va vn vc, .bool true]) (by simp [results, Tryz.results107, go_sem, u0, u1]) rfl ⟨_, rfl, OwnQ.base (OwnQ.far (OwnQ.far o2 _ _ _ hne) _ _ _ hne) (by omega), ?_⟩
 exact (Below.setCell (Nw.trans N1.out K2.out) (Nat.le_succ _) _).setCell (Nat.le_succ _) _
set_option maxHeartbeats 1000000 in
theorem icround (ax ay bx by' sx sy cx cy dx dy tx ty h : Int) (H : elV cx cy h h = (roundsP cx cy h h 0 32, true)) : RingSays 91 #[cnV ax ay bx by' sx sy cx cy dx dy tx ty h] (roundsP cx cy h h 0 32) := by
 intro w
 have HE : Hid _ := iroundAt cx cy h H
 clear H
 generalize roundsP cx cy h h 0 32 = l at *
 obtain ⟨W, hW⟩ : ∃ W, (w.alloc (.cells #[.int .i64 ax, .int .i64 ay, .int .i64 bx, .int .i64 by', .int .i64 sx, .int .i64 sy, .int .i64 cx, .int .i64 cy, .int .i64 dx, .int .i64 dy, .int .i64 tx, .int .i64 ty, .int .i64 h] 128)).alloc (.cells #[.slice none 0 0, .bool false] 25) = W := ⟨_, rfl⟩
 have z0 : W.cell? ⟨w.heap.size + 1, 0, none⟩ = some (.slice none 0 0) := by rw [← hW]; simp
 have z1 : W.cell? ⟨w.heap.size + 1, 1, none⟩ = some (.bool false) := by rw [← hW]; simp
 have zf : ∀ o, W.frozen? ⟨w.heap.size + 1, o, none⟩ = false := fun o => by rw [← hW]; exact World.frozen?_alloc_at _ _ _ _ (by simp)
 have hs : W.heap.size = w.heap.size + 1 + 1 := by rw [← hW]; simp
 have KW : Hid (Kp w W) := by show Kp w W; rw [← hW]; exact ((Kp.refl w).alloc _ _).alloc _ _
 have HW : Hid (_ = W) := hW
 clear hW
 go_enter Tryz.func91, Tryz.ntmps91
 go_wp2_with fail
 rw [HW.out]
 refine Calls.mono (HE.out _) ?_
 rintro e w1 ⟨v, rfl, o1, n1⟩
 obtain ⟨va, vc, hv, _⟩ := o1.pts
 have N1 : Hid (Nw w w1) := Nw.trans KW.out.nw n1
 have O1 : Hid (OwnP w1 (w.heap.size + 1 + 1) v l) := by rw [← hs]; exact o1
 replace z0 := nw_at n1 z0
 replace z1 := nw_at n1 z1
 replace zf : ∀ o, w1.frozen? ⟨w.heap.size + 1, o, none⟩ = false := fun o => ((bcell n1).2 _ _ (by omega)).trans (zf o)
 clear o1 n1 KW HW HE hs
 generalize l.length = vn at hv
 subst hv
 go_wp2
 obtain ⟨u0, u1⟩ := set2 w1 (w.heap.size + 1) (.slice va vn vc) (.bool true) z0 z1
 have hne : (Value.slice va vn vc).ownBlock ≠ some (w.heap.size + 1) := fun e => by have := (OwnQ.lt O1.out _ e).1; omega
 refine bodyPost_ret (v := .agg #[.slice va vn vc, .bool true]) (by simp [results, Tryz.results91, go_sem, u0, u1]) rfl ⟨_, rfl, OwnQ.base (OwnQ.far (OwnQ.far O1.out _ _ _ hne) _ _ _ hne) (by omega), ?_⟩
 exact (Below.setCell N1.out (Nat.le_succ _) _).setCell (Nat.le_succ _) _
abbrev tpV (px py sx sy ox oy h : Int) : Value := .agg #[.int .i64 px, .int .i64 py, .int .i64 sx, .int .i64 sy, .int .i64 ox, .int .i64 oy, .int .i64 h]
def LsSays (f : FuncId) (args : Array Value) (o : List LD) : Prop := ∀ w, Calls Tryz.prog f args w fun e w' => ∃ v, e = .returned v ∧ LsOk w' w.heap.size v o ∧ Nw w w'
theorem itbutt (px py sx sy ox oy h : Int) : LsSays 95 #[tpV px py sx sy ox oy h] [] := by
 intro w
 go_enter Tryz.func95, Tryz.ntmps95
 go_wp2
 refine bodyPost_ret (v := .slice none 0 0) (by simp [results, Tryz.results95, go_sem]) rfl ⟨_, rfl, LsOk.of (OwnLn.nil _ _) rfl, ?_⟩
 exact Kp.nw ((Kp.refl w).alloc _ _)
theorem itround (px py sx sy ox oy h : Int) (H : elV px py h h = (roundsP px py h h 0 32, true)) : LsSays 93 #[tpV px py sx sy ox oy h] [⟨roundsP px py h h 0 32, true⟩] := by
 intro w
 have HE : Hid _ := iroundAt px py h H
 clear H
 generalize roundsP px py h h 0 32 = l at *
 go_enter Tryz.func93, Tryz.ntmps93
 go_wp2_with fail
 refine Calls.mono (HE.out _) ?_
 rintro e w1 ⟨v, rfl, o1, n1⟩
 obtain ⟨va, vc, hv, _⟩ := o1.pts
 have N1 : Hid (Nw w w1) := Nw.trans (Kp.nw ((Kp.refl w).alloc _ _)) n1
 have O1 : Hid (OwnP w1 w.heap.size v l) := OwnQ.base o1 (by simp)
 clear o1 n1 HE
 generalize l.length = vn at hv
 subst hv
 go_wp2
 refine bodyPost_ret (v := .slice (some ⟨w1.heap.size, 0, none⟩) 1 1) (by simp [results, Tryz.results93, go_sem]) rfl ⟨_, rfl, LsOk.of (ownln1 (ld := ⟨l, true⟩) (Below.size N1.out) O1.out) rfl, ?_⟩
 exact Nw.trans N1.out ((Below.refl _ _).alloc (Nat.le_refl _) _)
def squareL (px py sx sy ox oy : Int) : List Pnt := [(px + sx, py + sy), (px + sx + ox, py + sy + oy), (px - sx + ox, py - sy + oy), (px - sx, py - sy)]
set_option maxHeartbeats 1000000 in
theorem itsquare (px py sx sy ox oy h : Int) (h0 : wid px) (h1 : wid py) (h2 : wid sx) (h3 : wid sy) (h4 : wid ox) (h5 : wid oy) (e0 : wid (px + sx)) (e1 : wid (py + sy)) (e2 : wid (px - sx)) (e3 : wid (py - sy)) : LsSays 94 #[tpV px py sx sy ox oy h] [⟨squareL px py sx sy ox oy, true⟩] := by
 intro w
 unfold squareL
 obtain ⟨W, hW⟩ : ∃ W, w.alloc (.cells #[.int .i64 px, .int .i64 py, .int .i64 sx, .int .i64 sy, .int .i64 ox, .int .i64 oy, .int .i64 h] 115) = W := ⟨_, rfl⟩
 have c0 : W.cell? ⟨w.heap.size, 0, none⟩ = some (.int .i64 px) := by rw [← hW]; simp
 have c1 : W.cell? ⟨w.heap.size, 1, none⟩ = some (.int .i64 py) := by rw [← hW]; simp
 have c2 : W.cell? ⟨w.heap.size, 2, none⟩ = some (.int .i64 sx) := by rw [← hW]; simp
 have c3 : W.cell? ⟨w.heap.size, 3, none⟩ = some (.int .i64 sy) := by rw [← hW]; simp
 have c4 : W.cell? ⟨w.heap.size, 4, none⟩ = some (.int .i64 ox) := by rw [← hW]; simp
 have c5 : W.cell? ⟨w.heap.size, 5, none⟩ = some (.int .i64 oy) := by rw [← hW]; simp
 have KW : Hid (Kp w W) := by show Kp w W; rw [← hW]; exact (Kp.refl w).alloc _ _
 have HW : Hid (_ = W) := hW
 clear hW
 go_enter Tryz.func94, Tryz.ntmps94
 go_wp2_with fail
 rw [HW.out]
 refine reg_change (ops' := opsOf 1 Tryz.f94) (by kernel_rfl) ?_
 refine SQ1.run ⟨px, py, sx, sy, w.heap.size, W.drew, _⟩ ⟨c0, c1, c2, c3, h0, h1, h2, h3, rfl, rfl⟩ W (Kp.refl _) ?_
 intro w2 g0 g1 k2 _ _ _ y0 y1 y2 y3
 have K2 : Hid (Kp w w2) := Kp.trans KW.out (undrew k2)
 replace c4 := rq_at (undrew k2) c4
 replace c5 := rq_at (undrew k2) c5
 clear k2 KW HW c0 c1 c2 c3
 simp only [Act.put, List.setIfInBounds_toArray, List.set_cons_zero, List.set_cons_succ]
 go_wp2_with fail
 refine reg_change (ops' := opsOf 2 Tryz.f94) (by kernel_rfl) ?_
 refine SQ2.run ⟨px + sx, py + sy, px - sx, py - sy, ox, oy, w.heap.size, g0, g1, w2.drew, _⟩ ⟨y0, y1, y2, y3, c4, c5, e0, e1, e2, e3, h4, h5, rfl, rfl, rfl, rfl⟩ w2 (Kp.refl _) ?_
 rintro γ w3 ⟨w4, w5, k4, k5, hg, rfl⟩
 replace k4 : Kp w2 w4 := undrew k4
 have O5 : Hid (OwnP w5 w.heap.size (.slice (some ⟨w4.heap.size, 0, none⟩) 4 4) _) := OwnP.nw (ownp4 w4 w.heap.size (Kp.size (Kp.trans K2.out k4)) (px + sx) (py + sy) (px + sx + ox) (py + sy + oy) (px - sx + ox) (py - sy + oy) (px - sx) (py - sy)) (Kp.nw k5)
 have N5 : Hid (Nw w w5) := Kp.nw (Kp.trans (Kp.trans K2.out k4) (Kp.trans ((Kp.refl _).alloc _ _) k5))
 clear k4 k5 K2 c4 c5 y0 y1 y2 y3
 simp only [hg, Act.put, List.setIfInBounds_toArray, List.set_cons_zero, List.set_cons_succ]
 go_wp2
 refine bodyPost_ret (v := .slice (some ⟨w5.heap.size, 0, none⟩) 1 1) (by simp [results, Tryz.results94, go_sem]) rfl ⟨_, rfl, LsOk.of (ownln1 (ld := ⟨_, true⟩) (Below.size N5.out) O5.out) rfl, ?_⟩
 exact Nw.trans N5.out ((Below.refl _ _).alloc (Nat.le_refl _) _)
def nxtP (q : List Pnt) (k : Nat) : Pnt := ptAt q ((k + 1) % q.length)
def segP (q : List Pnt) (h : Int) (k : Nat) : Sg := ⟨ptAt q k, nxtP q k, (sdV (ptAt q k) (nxtP q k) h).1⟩
def segsK (q : List Pnt) (h : Int) (k : Nat) : List Sg := (List.range k).map (segP q h)
theorem segsK_len (q : List Pnt) (h : Int) (k : Nat) : (segsK q h k).length = k := by simp [segsK]
theorem segsK_succ (q : List Pnt) (h : Int) (k : Nat) : segsK q h (k + 1) = segsK q h k ++ [segP q h k] := by simp [segsK, List.range_succ]
def segN (cl : Bool) (n : Nat) : Nat := bif cl then n else n - 1
set_option maxRecDepth 100000 in
set_option maxHeartbeats 4000000 in
theorem isegs (w : World) (a : Option Addr) (c : Nat) (q : List Pnt) (cl : Bool) (h : Int) (hq : 2 ≤ q.length) (hq2 : q.length ≤ 900000) (hr : Pts w a q) :
  Calls Tryz.prog 70 #[.slice a q.length c, .bool cl, .int .i64 h] w fun e w' => ∃ v, e = .returned v ∧ OwnG w' w.heap.size v (segsK q h (segN cl q.length)) ∧ Nw w w' := by
 obtain ⟨M, hM⟩ : ∃ M, segN cl q.length = M := ⟨_, rfl⟩
 rw [hM]
 have HR : Hid (Pts w a q) := hr
 clear hr
 have HS : Hid (∀ k, segsK q h (k + 1) = segsK q h k ++ [⟨ptAt q k, ptAt q ((k + 1) % q.length), (sdV (ptAt q k) (ptAt q ((k + 1) % q.length)) h).1⟩]) := fun k => segsK_succ q h k
 have HL : Hid (∀ k, (segsK q h k).length = k) := segsK_len q h
 have H0 : Hid (segsK q h 0 = []) := rfl
 obtain ⟨G, hG⟩ : ∃ G, segsK q h = G := ⟨_, rfl⟩
 rw [hG] at HS HL H0 ⊢
 clear hG
 obtain ⟨n, hn⟩ : ∃ n, q.length = n := ⟨_, rfl⟩
 have HN : Hid (q.length = n) := hn
 rw [hn] at HS hM hq hq2 ⊢
 clear hn
 have hMn : M ≤ n ∧ n ≤ M + 1 := by rw [← hM]; unfold segN; cases cl <;> simp <;> omega
 go_enter Tryz.func70, Tryz.ntmps70
 go_wp2
 go_loopw [15, 7] (fun i v wr => ∃ k : Nat, k ≤ M ∧ i = .int .i64 (k : Int) ∧ OwnG wr w.heap.size v (G k) ∧ Nw w wr) (fun i _ _ => n - (intOf i).toNat)
 case atStart => exact ⟨0, Nat.zero_le _, rfl, by rw [H0.out]; exact OwnG.nil _ _, Below.refl _ _⟩
 case round =>
  obtain ⟨k, hk, rfl, ho, hw⟩ := hrel
  have HO : Hid (OwnG wr w.heap.size _ (G k)) := ho
  have HW : Hid (Nw w wr) := hw
  obtain ⟨va, vc, hv⟩ := ho.slice
  rw [HL.out k] at hv
  subst hv
  clear ho hw
  by_cases hlt : k < M
  ·have hkn : k < n := by omega
   obtain ⟨m, hm⟩ : ∃ m, (k + 1) % n = m := ⟨_, rfl⟩
   have hmn : m < n := by rw [← hm]; exact Nat.mod_lt _ (by omega)
   have hrm : ((k : Int) + 1).tmod (n : Int) = (m : Int) := by
    rw [← hm, Int.tmod_eq_emod_of_nonneg (by omega)]
    first | exact (Int.natCast_emod (k + 1) n).symm | rfl
   have HE := HS.out k
   rw [hm] at HE
   rcases (Pts.nw HR.out HW.out) with h0 | ⟨b, off, rfl, hb, hc⟩
   ·have := HN.out; rw [h0] at this; simp at this; omega
   obtain ⟨q0, q1⟩ := hc k (by rw [HN.out]; exact hkn)
   obtain ⟨r0, r1⟩ := hc m (by rw [HN.out]; exact hmn)
   clear hc hm
   generalize ptAt q k = A at *
   generalize ptAt q m = B at *
   obtain ⟨ax, ay⟩ := A
   obtain ⟨bx, by'⟩ := B
   have HD : Hid (∀ w, _) := fun w => isideOf w (ax, ay) (bx, by') h
   obtain ⟨r, hrr⟩ : ∃ r, sdV (ax, ay) (bx, by') h = r := ⟨_, rfl⟩
   rw [hrr] at HE HD
   clear hrr
   obtain ⟨⟨sx, sy⟩, sb⟩ := r
   have HE' : Hid _ := HE
   have HLk : Hid ((G k).length + 1 ≤ 1000000) := by show _ ≤ _; rw [HL.out]; omega
   simp only at q0 q1 r0 r1 HD
   clear HE
   have hcase : (cl = true ∧ k + 1 = n) ∨ k + 1 < n := by
    cases cl
    ·right; rw [← hM] at hlt; simp only [segN, cond_false] at hlt; omega
    ·by_cases e : k + 1 = n
     ·exact Or.inl ⟨rfl, e⟩
     ·exact Or.inr (by omega)
   have d1 : decide ((k : Int) < (n : Int)) = true := by simp; omega
   have HKM : Hid (k + 1 ≤ M) := hlt
   rcases hcase with ⟨rfl, e⟩ | e
   ·have d2 : ((k : Int) == (n : Int) - 1) = true := by simp; omega
    clear hMn hM hlt
    go_upto_region 6 with fail
    go_wp2_with fail
    refine Calls.mono (HD.out _) ?_
    rintro e w1 ⟨rfl, k1⟩
    have N1 : Hid (Nw wr w1) := Nw.trans (Kp.nw (((Kp.refl wr).alloc _ _).alloc _ _)) (Kp.nw k1)
    have x0 := rq_at k1 (show ((wr.alloc (.cells #[.int .i64 ax, .int .i64 ay] 34)).alloc (.cells #[.int .i64 bx, .int .i64 by'] 34)).cell? ⟨wr.heap.size, 0, none⟩ = some (.int .i64 ax) by simp)
    have x1 := rq_at k1 (show ((wr.alloc (.cells #[.int .i64 ax, .int .i64 ay] 34)).alloc (.cells #[.int .i64 bx, .int .i64 by'] 34)).cell? ⟨wr.heap.size, 1, none⟩ = some (.int .i64 ay) by simp)
    have x2 := rq_at k1 (show ((wr.alloc (.cells #[.int .i64 ax, .int .i64 ay] 34)).alloc (.cells #[.int .i64 bx, .int .i64 by'] 34)).cell? ⟨wr.heap.size + 1, 0, none⟩ = some (.int .i64 bx) by simp)
    have x3 := rq_at k1 (show ((wr.alloc (.cells #[.int .i64 ax, .int .i64 ay] 34)).alloc (.cells #[.int .i64 bx, .int .i64 by'] 34)).cell? ⟨wr.heap.size + 1, 1, none⟩ = some (.int .i64 by') by simp)
    have hlt1 : wr.heap.size + 1 < w1.heap.size := World.block_lt_of_cell? w1 ⟨wr.heap.size + 1, 0, none⟩ x2
    have hlt0 : wr.heap.size < w1.heap.size := by omega
    have O1 : Hid (OwnG w1 w.heap.size (.slice va k vc) (G k)) := OwnG.nw HO.out N1.out
    clear k1 q0 q1 r0 r1
    go_wp2_with (at_builtin; (refine wpl_g _ rfl (.tmp 44) (.tmp 49) rfl w.heap.size (.slice va k vc) (G k) ⟨(ax, ay), (bx, by'), (sx, sy)⟩ rfl ?own (w1.heap.size + 1) ?hx ?hc HLk.out ?hB ?_))
    case own => exact OwnG.nw O1.out (Kp.nw (((Kp.refl w1).alloc _ _).alloc _ _))
    case hx => rfl
    case hc =>
     intro j u hj
     rw [World.cell?_alloc_at _ _ _ _ (by simp)]
     simpa [sgC] using hj
    case hB =>
     have b1 := Below.size HW.out
     have b2 := Below.size N1.out
     simp
     omega
    intro g' c' w9 h2 h3
    have H2 : Hid _ := h2
    have N9 : Hid (Nw w w9) := Below.trans (Nw.trans (Nw.trans HW.out N1.out) (Kp.nw (((Kp.refl w1).alloc _ _).alloc _ _))) (Ext.below h3 (fun g hg => (OwnG.lt HO.out g hg).1) (by
     have b1 := Below.size HW.out
     have b2 := Below.size N1.out
     simp
     omega))
    clear h2 h3 x0 x1 x2 x3
    go_wp2
    go_roundw
    case rel => exact ⟨k + 1, HKM.out, by go_num, by rw [HE'.out]; exact H2.out, N9.out⟩
    case measure => simp [intOf]; omega
   ·clear hMn hM hlt
    go_wp2_with fail
    refine Calls.mono (HD.out _) ?_
    rintro e w1 ⟨rfl, k1⟩
    have N1 : Hid (Nw wr w1) := Nw.trans (Kp.nw (((Kp.refl wr).alloc _ _).alloc _ _)) (Kp.nw k1)
    have x0 := rq_at k1 (show ((wr.alloc (.cells #[.int .i64 ax, .int .i64 ay] 34)).alloc (.cells #[.int .i64 bx, .int .i64 by'] 34)).cell? ⟨wr.heap.size, 0, none⟩ = some (.int .i64 ax) by simp)
    have x1 := rq_at k1 (show ((wr.alloc (.cells #[.int .i64 ax, .int .i64 ay] 34)).alloc (.cells #[.int .i64 bx, .int .i64 by'] 34)).cell? ⟨wr.heap.size, 1, none⟩ = some (.int .i64 ay) by simp)
    have x2 := rq_at k1 (show ((wr.alloc (.cells #[.int .i64 ax, .int .i64 ay] 34)).alloc (.cells #[.int .i64 bx, .int .i64 by'] 34)).cell? ⟨wr.heap.size + 1, 0, none⟩ = some (.int .i64 bx) by simp)
    have x3 := rq_at k1 (show ((wr.alloc (.cells #[.int .i64 ax, .int .i64 ay] 34)).alloc (.cells #[.int .i64 bx, .int .i64 by'] 34)).cell? ⟨wr.heap.size + 1, 1, none⟩ = some (.int .i64 by') by simp)
    have hlt1 : wr.heap.size + 1 < w1.heap.size := World.block_lt_of_cell? w1 ⟨wr.heap.size + 1, 0, none⟩ x2
    have hlt0 : wr.heap.size < w1.heap.size := by omega
    have O1 : Hid (OwnG w1 w.heap.size (.slice va k vc) (G k)) := OwnG.nw HO.out N1.out
    clear k1 q0 q1 r0 r1
    go_wp2_with (at_builtin; (refine wpl_g _ rfl (.tmp 44) (.tmp 49) rfl w.heap.size (.slice va k vc) (G k) ⟨(ax, ay), (bx, by'), (sx, sy)⟩ rfl ?own (w1.heap.size + 1) ?hx ?hc HLk.out ?hB ?_))
    case own => exact OwnG.nw O1.out (Kp.nw (((Kp.refl w1).alloc _ _).alloc _ _))
    case hx => rfl
    case hc =>
     intro j u hj
     rw [World.cell?_alloc_at _ _ _ _ (by simp)]
     simpa [sgC] using hj
    case hB =>
     have b1 := Below.size HW.out
     have b2 := Below.size N1.out
     simp
     omega
    intro g' c' w9 h2 h3
    have H2 : Hid _ := h2
    have N9 : Hid (Nw w w9) := Below.trans (Nw.trans (Nw.trans HW.out N1.out) (Kp.nw (((Kp.refl w1).alloc _ _).alloc _ _))) (Ext.below h3 (fun g hg => (OwnG.lt HO.out g hg).1) (by
     have b1 := Below.size HW.out
     have b2 := Below.size N1.out
     simp
     omega))
    clear h2 h3 x0 x1 x2 x3
    go_wp2
    go_roundw
    case rel => exact ⟨k + 1, HKM.out, by go_num, by rw [HE'.out]; exact H2.out, N9.out⟩
    case measure => simp [intOf]; omega
  ·have hkM : k = M := by omega
   subst hkM
   cases cl with
   | true =>
    have hkn : k = n := by rw [← hM]; rfl
    subst hkn
    have d1 : decide ((k : Int) < (k : Int)) = false := by simp
    go_wp2
    go_ret
    exact ⟨_, rfl, HO.out, HW.out⟩
   | false =>
    have hkn : k + 1 = n := by rw [← hM]; simp only [segN, cond_false]; omega
    have d1 : decide ((k : Int) < (n : Int)) = true := by simp; omega
    have d2 : ((k : Int) == (n : Int) - 1) = true := by simp; omega
    rcases (Pts.nw HR.out HW.out) with h0 | ⟨b, off, rfl, hb, hc⟩
    ·have := HN.out; rw [h0] at this; simp at this; omega
    obtain ⟨q0, q1⟩ := hc k (by rw [HN.out]; omega)
    clear hc
    generalize ptAt q k = A at *
    obtain ⟨ax, ay⟩ := A
    simp only at q0 q1
    clear hMn hM
    go_wp2
    go_ret
    exact ⟨_, rfl, OwnG.nw HO.out (Kp.nw ((Kp.refl wr).alloc _ _)), Nw.trans HW.out (Kp.nw ((Kp.refl wr).alloc _ _))⟩
set_option linter.unusedSimpArgs false
structure NXR where
 bx : Nat
 nb : Nat
 no : Nat
 n : Nat
 nc : Nat
 a : Nat
 m : Nat
 x : Int
 W : World
 a0 : Act
structure NXROk (X : NXR) : Prop where
 cn : X.W.cell? ⟨X.bx, 0, none⟩ = some (.slice (some ⟨X.nb, X.no, none⟩) X.n X.nc)
 ca : X.W.cell? ⟨X.bx, 1, none⟩ = some (.int .i64 (X.a : Int))
 rm : (X.a : Int).tmod (X.n : Int) = (X.m : Int)
 hn : X.n ≠ 0
 hm : X.m < X.n
 cx : X.W.cell? ⟨X.nb, X.no + X.m, none⟩ = some (.int .i64 X.x)
 cz : ∃ z, X.W.cell? ⟨X.bx, 2, none⟩ = some (.int .i64 z)
 ff : ∀ o, X.W.frozen? ⟨X.bx, o, none⟩ = false
 e0 : X.a0.eval (.tmp 0) = .pointer (some ⟨X.bx, 0, none⟩)
 sz : X.a0.tmps.size = 28
def NXR.val0 (X : NXR) : Nat → Value
 | 0 => .pointer (some ⟨X.bx, 0, none⟩)
 | 9 => .pointer (some ⟨X.bx, 0, none⟩)
 | 10 => .pointer (some ⟨X.bx, 0, none⟩)
 | 11 => .pointer (some ⟨X.bx, 0, none⟩)
 | 12 => .pointer (some ⟨X.bx, 0, none⟩)
 | 13 => .slice (some ⟨X.nb, X.no, none⟩) X.n X.nc
 | 14 => .pointer (some ⟨X.bx, 0, none⟩)
 | 15 => .pointer (some ⟨X.bx, 0, none⟩)
 | 16 => .pointer (some ⟨X.bx, 1, none⟩)
 | 17 => .int .i64 (X.a : Int)
 | 18 => .pointer (some ⟨X.bx, 0, none⟩)
 | 19 => .pointer (some ⟨X.bx, 0, none⟩)
 | 20 => .pointer (some ⟨X.bx, 0, none⟩)
 | 21 => .slice (some ⟨X.nb, X.no, none⟩) X.n X.nc
 | 22 => .int .i64 (X.n : Int)
 | 23 => .int .i64 (X.m : Int)
 | 24 => .pointer (some ⟨X.nb, X.no + X.m, none⟩)
 | 25 => .int .i64 X.x
 | 26 => .pointer (some ⟨X.bx, 0, none⟩)
 | 27 => .pointer (some ⟨X.bx, 2, none⟩)
 | _ => undef
def NXR.av : Nat → Option Nat
 | _ => none
def NXR.acts : List Nat := [19]
def NXR.Wd (X : NXR) : Nat → (Nat → Value) → World → Prop
  | 0, _, w => w = X.W
  | _, _, w => w = X.W.setCell ⟨X.bx, 2, none⟩ (.int .i64 X.x)
theorem NXR.chain : chainG (opsOf 1 Tryz.f59) NXR.acts = true := by kernel_rfl
theorem NXR.nodup : NXR.acts.Nodup := by decide
def NXR.L : List (Option Nat × Op × Option (Nat × Bool)) := [
 (some 9, .move (.tmp 0), none),
 (some 10, .move (.tmp 0), none),
 (some 11, .nilCheck (.tmp 10), none),
 (some 12, .fieldAddr 67 (.tmp 11) 0, none),
 (some 13, .load 26 (.tmp 12), none),
 (some 14, .move (.tmp 0), none),
 (some 15, .nilCheck (.tmp 14), none),
 (some 16, .fieldAddr 67 (.tmp 15) 1, none),
 (some 17, .load 3 (.tmp 16), none),
 (some 18, .move (.tmp 0), none),
 (some 19, .nilCheck (.tmp 18), none),
 (some 20, .fieldAddr 67 (.tmp 19) 0, none),
 (some 21, .load 26 (.tmp 20), none),
 (some 22, .call { callee := .builtin .len, args := #[(.tmp 21)], argTypes := #[26] }, none),
 (some 23, .binOp .rem 3 (.tmp 17) (.tmp 22) 3, none),
 (some 24, .indexAddr 26 (.tmp 13) (.tmp 23), none),
 (some 25, .load 3 (.tmp 24), none),
 (some 26, .nilCheck (.tmp 9), none),
 (some 27, .fieldAddr 67 (.tmp 26) 2, none),
 (none, .store 3 (.tmp 27) (.tmp 25), none)]
theorem NXR.isL : (opsOf 1 Tryz.f59).toList.map tri = NXR.L := by kernel_rfl
theorem NXR.ini {X : NXR} (ok : NXROk X) : ∀ n ∈ [0], X.a0.eval (.tmp n) = X.val0 n := by
 simp only [List.forall_mem_cons]
 exact ⟨ok.e0, List.forall_mem_nil _⟩
abbrev NXR.St (X : NXR) (Q : PQ) (i : Nat) : Prop := StepG (opsOf 1 Tryz.f59) NXR.acts NXR.av X.val0 X.Wd X.a0 Q i
theorem NXR.plain (X : NXR) (ok : NXROk X) {Q : PQ} : ∀ i ∈ [0, 1, 2, 3, 5, 6, 7, 9, 10, 11, 13, 14, 15, 17, 18], NXR.St X Q i := by
 simp only [List.forall_mem_cons]
 refine ⟨?_, ?_, ?_, ?_, ?_, ?_, ?_, ?_, ?_, ?_, ?_, ?_, ?_, ?_, ?_, List.forall_mem_nil _⟩
 all_goals
  refine st_plain NXR.isL (NXR.ini ok) ok.sz rfl (by kernel_rfl) ?_
  intro γ w n o hW hop
  unfold execOp
  rw [hop]
  simp [envR, valG, NXR.av, NXR.val0, ok.rm, ok.hn, ok.hm, go_sem]
theorem NXR.soon (X : NXR) (ok : NXROk X) {Q : PQ} : ∀ i ∈ [4, 8, 12, 16], NXR.St X Q i := by
 simp only [List.forall_mem_cons]
 refine ⟨?_, ?_, ?_, ?_, List.forall_mem_nil _⟩
 all_goals
  refine st_plainM (m := 0) NXR.isL (NXR.ini ok) ok.sz rfl (by kernel_rfl) ?_
  intro γ w n o hn hW hop
  obtain rfl : n = 0 := by omega
  have hk : w = X.W := hW
  subst hk
  unfold execOp
  rw [hop]
  simp [envR, valG, NXR.av, NXR.val0, ok.cn, ok.ca, ok.cx, go_sem]
theorem NXR.s19 (X : NXR) (ok : NXROk X) {Q : PQ} : NXR.St X Q 19 := by
 intro γ listed a w o hF hC hW h1 ho h2
 obtain ⟨hd, hop, hg⟩ := fieldsL NXR.isL (i := 19) rfl ho
 have e27 : a.eval (.tmp 27) = .pointer (some ⟨X.bx, 2, none⟩) := known hF ho h2 (NXR.ini ok) ok.sz (by kernel_rfl)
 have e25 : a.eval (.tmp 25) = .int .i64 X.x := known hF ho h2 (NXR.ini ok) ok.sz (by kernel_rfl)
 have hu := unl (hF.lt ho) h1
 refine st_actG (k := 0) NXR.chain NXR.nodup rfl hF hC hW h1 ho h2 (Or.inl hd) (injG (by kernel_rfl) hu) hg ?_
 intro hW0 K hK
 have hw0 : w = X.W := hW0
 obtain ⟨z0, f0⟩ := ok.cz
 have ff := ok.ff
 have hr : (execOp a.eval o).run Tryz.prog X.W = .ok .skip (X.W.setCell ⟨X.bx, 2, none⟩ (.int .i64 X.x)) := by
  generalize a.eval = ρ at e25 e27 ⊢
  unfold execOp
  rw [hop]
  simp [e25, e27, f0, ff, go_sem]
 unfold Oper.wp
 rw [hw0, hr]
 exact hK undef _ rfl
theorem NXR.size : (opsOf 1 Tryz.f59).size = 20 := by kernel_rfl
theorem NXR.rest (X : NXR) (ok : NXROk X) {Q : PQ} : ∀ i ∈ [19], NXR.St X Q i := by
 simp only [List.forall_mem_cons]
 exact ⟨NXR.s19 X ok, List.forall_mem_nil _⟩
theorem NXR.steps (X : NXR) (ok : NXROk X) {Q : PQ} (i : Nat) (hi : i < (opsOf 1 Tryz.f59).size) : NXR.St X Q i := by
 rw [NXR.size] at hi
 rcases (by decide : ∀ i, i < 20 → i ∈ [0, 1, 2, 3, 5, 6, 7, 9, 10, 11, 13, 14, 15, 17, 18] ∨ i ∈ [4, 8, 12, 16] ∨ i ∈ [19]) i hi with h | h | h
 · exact NXR.plain X ok i h
 · exact NXR.soon X ok i h
 · exact NXR.rest X ok i h
theorem NXR.run (X : NXR) (ok : NXROk X) {Q : PQ} (w : World) (h0 : X.Wd 0 (fun _ => undef) w.drew) (hend : ∀ (γ : Nat → Value) w', X.Wd 1 γ w' → Q .normal (((((((((((((((((((X.a0.put (some 9) (.pointer (some ⟨X.bx, 0, none⟩))).put (some 10) (.pointer (some ⟨X.bx, 0, none⟩))).put (some 11) (.pointer (some ⟨X.bx, 0, none⟩))).put (some 12) (.pointer (some ⟨X.bx, 0, none⟩))).put (some 13) (.slice (some ⟨X.nb, X.no, none⟩) X.n X.nc)).put (some 14) (.pointer (some ⟨X.bx, 0, none⟩))).put (some 15) (.pointer (some ⟨X.bx, 0, none⟩))).put (some 16) (.pointer (some ⟨X.bx, 1, none⟩))).put (some 17) (.int .i64 (X.a : Int))).put (some 18) (.pointer (some ⟨X.bx, 0, none⟩))).put (some 19) (.pointer (some ⟨X.bx, 0, none⟩))).put (some 20) (.pointer (some ⟨X.bx, 0, none⟩))).put (some 21) (.slice (some ⟨X.nb, X.no, none⟩) X.n X.nc)).put (some 22) (.int .i64 (X.n : Int))).put (some 23) (.int .i64 (X.m : Int))).put (some 24) (.pointer (some ⟨X.nb, X.no + X.m, none⟩))).put (some 25) (.int .i64 X.x)).put (some 26) (.pointer (some ⟨X.bx, 0, none⟩))).put (some 27) (.pointer (some ⟨X.bx, 2, none⟩))) w') : (Code.region 1 (opsOf 1 Tryz.f59) true).wp Tryz.prog Q X.a0 w := by
 refine reg_act (acts := NXR.acts) (av := NXR.av) (val0 := X.val0) (Wd := X.Wd) (by kernel_rfl) (by kernel_rfl) (by rw [NXR.size]; decide) (fun i hi => NXR.steps X ok i hi) _ h0 ?_
 intro γ w' h
 exact end_at (hend γ w' h) (by kernel_rfl)
theorem igap (w : World) (b : Nat) (a : Int) (c1 : w.cell? ⟨b, 1, none⟩ = some (.int .i64 a)) : Calls Tryz.prog 60 #[.pointer (some ⟨b, 0, none⟩)] w fun e w' => e = .returned (.bool (decide (a.tmod 2 = 1))) ∧ w' = w := by
  have hwr : IntKind.i64.wrap (a.tmod 2) = a.tmod 2 := by
    rcases Int.lt_or_le a 0 with h | h
    · rw [tmod_neg_of a 2 h]; exact IntWalk.i64_in _ ⟨by omega, by omega⟩
    · rw [Int.tmod_eq_emod_of_nonneg h]; exact IntWalk.i64_in _ ⟨by omega, by omega⟩
  have hbe : (a.tmod 2 == 1) = decide (a.tmod 2 = 1) := by rw [Bool.eq_iff_iff]; simp
  go_enter Tryz.func60, Tryz.ntmps60
  go_wp2
  go_ret
  exact ⟨by show Ending.returned (.bool (a.tmod 2 == 1)) = _; rw [hbe], rfl⟩
theorem gap_k {W w : World} {b : Nat} {a : Int} {v : Bool} (c1 : W.cell? ⟨b, 1, none⟩ = some (.int .i64 a)) (h : decide (a.tmod 2 = 1) = v) (k : Kp W w) : Calls Tryz.prog 60 #[.pointer (some ⟨b, 0, none⟩)] w fun e w' => e = .returned (.bool v) ∧ Kp w w' := by
  refine Calls.mono (igap w b a (rq_at k c1)) ?_
  rintro e w' ⟨rfl, rfl⟩
  rw [← h]
  exact ⟨rfl, Kp.refl _⟩
structure RCA where
 bx : Nat
 bq : Nat
 x : Int
 y : Int
 a : Int
 W : World
 a0 : Act
structure RCAOk (X : RCA) : Prop where
 q0 : X.W.cell? ⟨X.bq, 0, none⟩ = some (.int .i64 X.x)
 q1 : X.W.cell? ⟨X.bq, 1, none⟩ = some (.int .i64 X.y)
 ca : X.W.cell? ⟨X.bx, 1, none⟩ = some (.int .i64 X.a)
 hg : decide (X.a.tmod 2 = 1) = true
 e0 : X.a0.eval (.tmp 0) = .pointer (some ⟨X.bx, 0, none⟩)
 e3 : X.a0.eval (.tmp 3) = .pointer (some ⟨X.bq, 0, none⟩)
 sz : X.a0.tmps.size = 36
def RCA.val0 (X : RCA) : Nat → Value
 | 0 => .pointer (some ⟨X.bx, 0, none⟩)
 | 3 => .pointer (some ⟨X.bq, 0, none⟩)
 | 4 => .pointer (some ⟨X.bx, 0, none⟩)
 | 5 => .bool true
 | 6 => .bool true
 | 29 => .bool true
 | _ => undef
def RCA.av : Nat → Option Nat
 | _ => none
def RCA.acts : List Nat := []
def RCA.Wd (X : RCA) : Nat → (Nat → Value) → World → Prop
  | _, _, w => Kp X.W w
theorem RCA.kp {X : RCA} {n : Nat} {γ : Nat → Value} {w : World} (h : X.Wd n γ w) : Kp X.W w := h
theorem RCA.keep {X : RCA} {n : Nat} {γ : Nat → Value} {w w' : World} (h : X.Wd n γ w) (k : Kp w w') : X.Wd n γ w' := Kp.trans h k
def RCA.L : List (Option Nat × Op × Option (Nat × Bool)) := [
 (some 4, .move (.tmp 0), none),
 (some 5, .call { callee := .value (.func 60), args := #[(.tmp 4)], argTypes := #[90] }, none),
 (some 6, .move (.tmp 5), none),
 (some 7, .move (.tmp 0), some (2, false)),
 (some 8, .nilCheck (.tmp 7), some (2, false)),
 (some 9, .fieldAddr 67 (.tmp 8) 4, some (2, false)),
 (some 10, .load 64 (.tmp 9), some (2, false)),
 (some 11, .call { callee := .builtin .len, args := #[(.tmp 10)], argTypes := #[64] }, some (2, false)),
 (some 12, .binOp .gtr 3 (.tmp 11) (.const (.int .i64 0)) 3, some (2, false)),
 (some 13, .move (.tmp 12), some (2, false)),
 (some 14, .move (.tmp 0), some (9, true)),
 (some 15, .nilCheck (.tmp 14), some (9, true)),
 (some 16, .fieldAddr 67 (.tmp 15) 4, some (9, true)),
 (some 17, .load 64 (.tmp 16), some (9, true)),
 (some 18, .move (.tmp 0), some (9, true)),
 (some 19, .nilCheck (.tmp 18), some (9, true)),
 (some 20, .fieldAddr 67 (.tmp 19) 4, some (9, true)),
 (some 21, .load 64 (.tmp 20), some (9, true)),
 (some 22, .call { callee := .builtin .len, args := #[(.tmp 21)], argTypes := #[64] }, some (9, true)),
 (some 23, .binOp .sub 3 (.tmp 22) (.const (.int .i64 1)) 3, some (9, true)),
 (some 24, .indexAddr 64 (.tmp 17) (.tmp 23), some (9, true)),
 (some 25, .load 34 (.tmp 24), some (9, true)),
 (some 26, .load 34 (.tmp 3), some (9, true)),
 (some 27, .binOp .eql 34 (.tmp 25) (.tmp 26) 34, some (9, true)),
 (some 28, .pick (.tmp 13) (.tmp 27) (.const (.bool false)), some (2, false)),
 (some 29, .pick (.tmp 6) (.const (.bool true)) (.tmp 28), none)]
theorem RCA.isL : (opsOf 1 Tryz.f32).toList.map tri = RCA.L := by kernel_rfl
theorem RCA.ini {X : RCA} (ok : RCAOk X) : ∀ n ∈ [0, 3], X.a0.eval (.tmp n) = X.val0 n := by
 simp only [List.forall_mem_cons]
 exact ⟨ok.e0, ok.e3, List.forall_mem_nil _⟩
abbrev RCA.St (X : RCA) (Q : PQ) (i : Nat) : Prop := StepG (opsOf 1 Tryz.f32) RCA.acts RCA.av X.val0 X.Wd X.a0 Q i
theorem RCA.plain (X : RCA) (ok : RCAOk X) {Q : PQ} : ∀ i ∈ [0, 2, 25], RCA.St X Q i := by
 simp only [List.forall_mem_cons]
 refine ⟨?_, ?_, ?_, List.forall_mem_nil _⟩
 all_goals
  refine st_plain RCA.isL (RCA.ini ok) ok.sz rfl (by kernel_rfl) ?_
  intro γ w n o hW hop
  unfold execOp
  rw [hop]
  simp [envR, valG, RCA.av, RCA.val0, go_sem]
theorem RCA.skip (X : RCA) (ok : RCAOk X) {Q : PQ} : ∀ i ∈ [3, 4, 5, 6, 7, 8, 9, 24], RCA.St X Q i := by
 simp only [List.forall_mem_cons]
 refine ⟨?_, ?_, ?_, ?_, ?_, ?_, ?_, ?_, List.forall_mem_nil _⟩
 all_goals
  exact st_plainS RCA.isL (RCA.ini ok) ok.sz rfl rfl (Or.inl rfl) (by kernel_rfl) rfl
theorem RCA.undo (X : RCA) (ok : RCAOk X) {Q : PQ} : ∀ i ∈ [10, 11, 12, 13, 14, 15, 16, 17, 18, 19, 20, 21, 22, 23], RCA.St X Q i := by
 simp only [List.forall_mem_cons]
 refine ⟨?_, ?_, ?_, ?_, ?_, ?_, ?_, ?_, ?_, ?_, ?_, ?_, ?_, ?_, List.forall_mem_nil _⟩
 all_goals
  exact st_plainS RCA.isL (RCA.ini ok) ok.sz rfl rfl (Or.inr rfl) (by kernel_rfl) rfl
theorem RCA.size : (opsOf 1 Tryz.f32).size = 26 := by kernel_rfl
theorem RCA.rest (X : RCA) (ok : RCAOk X) {Q : PQ} : ∀ i ∈ [1], RCA.St X Q i := by
 simp only [List.forall_mem_cons]
 exact ⟨st_callK RCA.isL (RCA.ini ok) ok.sz rfl (by kernel_rfl) (fun _ _ => by simp [go_sem]) (fun γ w n hW => gap_k ok.ca ok.hg (RCA.kp hW)) (fun _ _ _ _ hW hk => RCA.keep hW hk), List.forall_mem_nil _⟩
theorem RCA.steps (X : RCA) (ok : RCAOk X) {Q : PQ} (i : Nat) (hi : i < (opsOf 1 Tryz.f32).size) : RCA.St X Q i := by
 rw [RCA.size] at hi
 rcases (by decide : ∀ i, i < 26 → i ∈ [0, 2, 25] ∨ i ∈ [3, 4, 5, 6, 7, 8, 9, 24] ∨ i ∈ [10, 11, 12, 13, 14, 15, 16, 17, 18, 19, 20, 21, 22, 23] ∨ i ∈ [1]) i hi with h | h | h | h
 · exact RCA.plain X ok i h
 · exact RCA.skip X ok i h
 · exact RCA.undo X ok i h
 · exact RCA.rest X ok i h
theorem RCA.run (X : RCA) (ok : RCAOk X) {Q : PQ} (w : World) (h0 : X.Wd 0 (fun _ => undef) w.drew) (hend : ∀ (γ : Nat → Value) w', X.Wd 0 γ w' → Q .normal ((((((((((((((((((((((((((X.a0.put (some 4) (.pointer (some ⟨X.bx, 0, none⟩))).put (some 5) (.bool true)).put (some 6) (.bool true)).put (some 7) (undef)).put (some 8) (undef)).put (some 9) (undef)).put (some 10) (undef)).put (some 11) (undef)).put (some 12) (undef)).put (some 13) (undef)).put (some 14) (undef)).put (some 15) (undef)).put (some 16) (undef)).put (some 17) (undef)).put (some 18) (undef)).put (some 19) (undef)).put (some 20) (undef)).put (some 21) (undef)).put (some 22) (undef)).put (some 23) (undef)).put (some 24) (undef)).put (some 25) (undef)).put (some 26) (undef)).put (some 27) (undef)).put (some 28) (undef)).put (some 29) (.bool true)) w') : (Code.region 1 (opsOf 1 Tryz.f32) true).wp Tryz.prog Q X.a0 w := by
 refine reg_act (acts := RCA.acts) (av := RCA.av) (val0 := X.val0) (Wd := X.Wd) (by kernel_rfl) (by kernel_rfl) (by rw [RCA.size]; decide) (fun i hi => RCA.steps X ok i hi) _ h0 ?_
 intro γ w' h
 exact end_at (hend γ w' h) (by kernel_rfl)
structure RCB where
 bx : Nat
 bq : Nat
 x : Int
 y : Int
 a : Int
 ua : Option Addr
 uc : Nat
 W : World
 a0 : Act
structure RCBOk (X : RCB) : Prop where
 q0 : X.W.cell? ⟨X.bq, 0, none⟩ = some (.int .i64 X.x)
 q1 : X.W.cell? ⟨X.bq, 1, none⟩ = some (.int .i64 X.y)
 c4 : X.W.cell? ⟨X.bx, 4, none⟩ = some (.slice X.ua 0 X.uc)
 ca : X.W.cell? ⟨X.bx, 1, none⟩ = some (.int .i64 X.a)
 hg : decide (X.a.tmod 2 = 1) = false
 e0 : X.a0.eval (.tmp 0) = .pointer (some ⟨X.bx, 0, none⟩)
 e3 : X.a0.eval (.tmp 3) = .pointer (some ⟨X.bq, 0, none⟩)
 sz : X.a0.tmps.size = 36
def RCB.val0 (X : RCB) : Nat → Value
 | 0 => .pointer (some ⟨X.bx, 0, none⟩)
 | 3 => .pointer (some ⟨X.bq, 0, none⟩)
 | 4 => .pointer (some ⟨X.bx, 0, none⟩)
 | 5 => .bool false
 | 6 => .bool false
 | 7 => .pointer (some ⟨X.bx, 0, none⟩)
 | 8 => .pointer (some ⟨X.bx, 0, none⟩)
 | 9 => .pointer (some ⟨X.bx, 4, none⟩)
 | 10 => .slice X.ua 0 X.uc
 | 11 => .int .i64 0
 | 12 => .bool false
 | 13 => .bool false
 | 28 => .bool false
 | 29 => .bool false
 | _ => undef
def RCB.av : Nat → Option Nat
 | _ => none
def RCB.acts : List Nat := []
def RCB.Wd (X : RCB) : Nat → (Nat → Value) → World → Prop
  | _, _, w => Kp X.W w
theorem RCB.kp {X : RCB} {n : Nat} {γ : Nat → Value} {w : World} (h : X.Wd n γ w) : Kp X.W w := h
theorem RCB.keep {X : RCB} {n : Nat} {γ : Nat → Value} {w w' : World} (h : X.Wd n γ w) (k : Kp w w') : X.Wd n γ w' := Kp.trans h k
theorem RCB.ini {X : RCB} (ok : RCBOk X) : ∀ n ∈ [0, 3], X.a0.eval (.tmp n) = X.val0 n := by
 simp only [List.forall_mem_cons]
 exact ⟨ok.e0, ok.e3, List.forall_mem_nil _⟩
abbrev RCB.St (X : RCB) (Q : PQ) (i : Nat) : Prop := StepG (opsOf 1 Tryz.f32) RCB.acts RCB.av X.val0 X.Wd X.a0 Q i
theorem RCB.plain (X : RCB) (ok : RCBOk X) {Q : PQ} : ∀ i ∈ [0, 2, 25], RCB.St X Q i := by
 simp only [List.forall_mem_cons]
 refine ⟨?_, ?_, ?_, List.forall_mem_nil _⟩
 all_goals
  refine st_plain RCA.isL (RCB.ini ok) ok.sz rfl (by kernel_rfl) ?_
  intro γ w n o hW hop
  have hc_c4 := rq_at (RCB.kp hW) ok.c4
  unfold execOp
  rw [hop]
  simp [envR, valG, RCB.av, RCB.val0, hc_c4, go_sem]
theorem RCB.want (X : RCB) (ok : RCBOk X) {Q : PQ} : ∀ i ∈ [3, 4, 5, 6, 7, 8, 9, 24], RCB.St X Q i := by
 simp only [List.forall_mem_cons]
 refine ⟨?_, ?_, ?_, ?_, ?_, ?_, ?_, ?_, List.forall_mem_nil _⟩
 all_goals
  refine st_plainW RCA.isL (RCB.ini ok) ok.sz rfl rfl rfl (by kernel_rfl) ?_
  intro γ w n o hW hop
  have hc_c4 := rq_at (RCB.kp hW) ok.c4
  unfold execOp
  rw [hop]
  simp [envR, valG, RCB.av, RCB.val0, hc_c4, go_sem]
theorem RCB.skip (X : RCB) (ok : RCBOk X) {Q : PQ} : ∀ i ∈ [10, 11, 12, 13, 14, 15, 16, 17, 18, 19, 20, 21, 22, 23], RCB.St X Q i := by
 simp only [List.forall_mem_cons]
 refine ⟨?_, ?_, ?_, ?_, ?_, ?_, ?_, ?_, ?_, ?_, ?_, ?_, ?_, ?_, List.forall_mem_nil _⟩
 all_goals
  exact st_plainS RCA.isL (RCB.ini ok) ok.sz rfl rfl (Or.inl rfl) (by kernel_rfl) rfl
theorem RCB.rest (X : RCB) (ok : RCBOk X) {Q : PQ} : ∀ i ∈ [1], RCB.St X Q i := by
 simp only [List.forall_mem_cons]
 exact ⟨st_callK RCA.isL (RCB.ini ok) ok.sz rfl (by kernel_rfl) (fun _ _ => by simp [go_sem]) (fun γ w n hW => gap_k ok.ca ok.hg (RCB.kp hW)) (fun _ _ _ _ hW hk => RCB.keep hW hk), List.forall_mem_nil _⟩
theorem RCB.steps (X : RCB) (ok : RCBOk X) {Q : PQ} (i : Nat) (hi : i < (opsOf 1 Tryz.f32).size) : RCB.St X Q i := by
 rw [RCA.size] at hi
 rcases (by decide : ∀ i, i < 26 → i ∈ [0, 2, 25] ∨ i ∈ [3, 4, 5, 6, 7, 8, 9, 24] ∨ i ∈ [10, 11, 12, 13, 14, 15, 16, 17, 18, 19, 20, 21, 22, 23] ∨ i ∈ [1]) i hi with h | h | h | h
 · exact RCB.plain X ok i h
 · exact RCB.want X ok i h
 · exact RCB.skip X ok i h
 · exact RCB.rest X ok i h
theorem RCB.run (X : RCB) (ok : RCBOk X) {Q : PQ} (w : World) (h0 : X.Wd 0 (fun _ => undef) w.drew) (hend : ∀ (γ : Nat → Value) w', X.Wd 0 γ w' → Q .normal ((((((((((((((((((((((((((X.a0.put (some 4) (.pointer (some ⟨X.bx, 0, none⟩))).put (some 5) (.bool false)).put (some 6) (.bool false)).put (some 7) (.pointer (some ⟨X.bx, 0, none⟩))).put (some 8) (.pointer (some ⟨X.bx, 0, none⟩))).put (some 9) (.pointer (some ⟨X.bx, 4, none⟩))).put (some 10) (.slice X.ua 0 X.uc)).put (some 11) (.int .i64 0)).put (some 12) (.bool false)).put (some 13) (.bool false)).put (some 14) (undef)).put (some 15) (undef)).put (some 16) (undef)).put (some 17) (undef)).put (some 18) (undef)).put (some 19) (undef)).put (some 20) (undef)).put (some 21) (undef)).put (some 22) (undef)).put (some 23) (undef)).put (some 24) (undef)).put (some 25) (undef)).put (some 26) (undef)).put (some 27) (undef)).put (some 28) (.bool false)).put (some 29) (.bool false)) w') : (Code.region 1 (opsOf 1 Tryz.f32) true).wp Tryz.prog Q X.a0 w := by
 refine reg_act (acts := RCB.acts) (av := RCB.av) (val0 := X.val0) (Wd := X.Wd) (by kernel_rfl) (by kernel_rfl) (by rw [RCA.size]; decide) (fun i hi => RCB.steps X ok i hi) _ h0 ?_
 intro γ w' h
 exact end_at (hend γ w' h) (by kernel_rfl)
structure RCC where
 bx : Nat
 bq : Nat
 x : Int
 y : Int
 a : Int
 g : Nat
 n : Nat
 m : Nat
 uc : Nat
 W : World
 a0 : Act
structure RCCOk (X : RCC) : Prop where
 q0 : X.W.cell? ⟨X.bq, 0, none⟩ = some (.int .i64 X.x)
 q1 : X.W.cell? ⟨X.bq, 1, none⟩ = some (.int .i64 X.y)
 c4 : X.W.cell? ⟨X.bx, 4, none⟩ = some (.slice (some ⟨X.g, 0, none⟩) X.n X.uc)
 ca : X.W.cell? ⟨X.bx, 1, none⟩ = some (.int .i64 X.a)
 hg : decide (X.a.tmod 2 = 1) = false
 h0 : 0 < X.n
 wm : IntKind.i64.wrap ((X.n : Int) - 1) = (X.m : Int)
 hm : X.m < X.n
 px : X.W.cell? ⟨X.g, X.m * 2, none⟩ = some (.int .i64 X.x)
 py : X.W.cell? ⟨X.g, X.m * 2 + 1, none⟩ = some (.int .i64 X.y)
 e0 : X.a0.eval (.tmp 0) = .pointer (some ⟨X.bx, 0, none⟩)
 e3 : X.a0.eval (.tmp 3) = .pointer (some ⟨X.bq, 0, none⟩)
 sz : X.a0.tmps.size = 36
def RCC.val0 (X : RCC) : Nat → Value
 | 0 => .pointer (some ⟨X.bx, 0, none⟩)
 | 3 => .pointer (some ⟨X.bq, 0, none⟩)
 | 4 => .pointer (some ⟨X.bx, 0, none⟩)
 | 5 => .bool false
 | 6 => .bool false
 | 7 => .pointer (some ⟨X.bx, 0, none⟩)
 | 8 => .pointer (some ⟨X.bx, 0, none⟩)
 | 9 => .pointer (some ⟨X.bx, 4, none⟩)
 | 10 => .slice (some ⟨X.g, 0, none⟩) X.n X.uc
 | 11 => .int .i64 (X.n : Int)
 | 12 => .bool true
 | 13 => .bool true
 | 14 => .pointer (some ⟨X.bx, 0, none⟩)
 | 15 => .pointer (some ⟨X.bx, 0, none⟩)
 | 16 => .pointer (some ⟨X.bx, 4, none⟩)
 | 17 => .slice (some ⟨X.g, 0, none⟩) X.n X.uc
 | 18 => .pointer (some ⟨X.bx, 0, none⟩)
 | 19 => .pointer (some ⟨X.bx, 0, none⟩)
 | 20 => .pointer (some ⟨X.bx, 4, none⟩)
 | 21 => .slice (some ⟨X.g, 0, none⟩) X.n X.uc
 | 22 => .int .i64 (X.n : Int)
 | 23 => .int .i64 (X.m : Int)
 | 24 => .pointer (some ⟨X.g, X.m * 2, none⟩)
 | 25 => .agg #[.int .i64 X.x, .int .i64 X.y]
 | 26 => .agg #[.int .i64 X.x, .int .i64 X.y]
 | 27 => .bool true
 | 28 => .bool true
 | 29 => .bool true
 | _ => undef
def RCC.av : Nat → Option Nat
 | _ => none
def RCC.acts : List Nat := []
def RCC.Wd (X : RCC) : Nat → (Nat → Value) → World → Prop
  | _, _, w => Kp X.W w
theorem RCC.kp {X : RCC} {n : Nat} {γ : Nat → Value} {w : World} (h : X.Wd n γ w) : Kp X.W w := h
theorem RCC.keep {X : RCC} {n : Nat} {γ : Nat → Value} {w w' : World} (h : X.Wd n γ w) (k : Kp w w') : X.Wd n γ w' := Kp.trans h k
theorem RCC.ini {X : RCC} (ok : RCCOk X) : ∀ n ∈ [0, 3], X.a0.eval (.tmp n) = X.val0 n := by
 simp only [List.forall_mem_cons]
 exact ⟨ok.e0, ok.e3, List.forall_mem_nil _⟩
abbrev RCC.St (X : RCC) (Q : PQ) (i : Nat) : Prop := StepG (opsOf 1 Tryz.f32) RCC.acts RCC.av X.val0 X.Wd X.a0 Q i
theorem RCC.plain (X : RCC) (ok : RCCOk X) {Q : PQ} : ∀ i ∈ [0, 2, 25], RCC.St X Q i := by
 simp only [List.forall_mem_cons]
 refine ⟨?_, ?_, ?_, List.forall_mem_nil _⟩
 all_goals
  refine st_plain RCA.isL (RCC.ini ok) ok.sz rfl (by kernel_rfl) ?_
  intro γ w n o hW hop
  have hc_c4 := rq_at (RCC.kp hW) ok.c4
  have hc_px := rq_at (RCC.kp hW) ok.px
  have hc_py := rq_at (RCC.kp hW) ok.py
  have hc_q0 := rq_at (RCC.kp hW) ok.q0
  have hc_q1 := rq_at (RCC.kp hW) ok.q1
  unfold execOp
  rw [hop]
  simp [envR, valG, RCC.av, RCC.val0, hc_c4, ok.h0, ok.wm, ok.hm, hc_px, hc_py, hc_q0, hc_q1, go_sem]
theorem RCC.want (X : RCC) (ok : RCCOk X) {Q : PQ} : ∀ i ∈ [3, 4, 5, 6, 7, 8, 9, 10, 11, 12, 13, 14, 15, 16, 17, 18, 19, 20, 21, 22, 23, 24], RCC.St X Q i := by
 simp only [List.forall_mem_cons]
 refine ⟨?_, ?_, ?_, ?_, ?_, ?_, ?_, ?_, ?_, ?_, ?_, ?_, ?_, ?_, ?_, ?_, ?_, ?_, ?_, ?_, ?_, ?_, List.forall_mem_nil _⟩
 all_goals
  refine st_plainW RCA.isL (RCC.ini ok) ok.sz rfl rfl rfl (by kernel_rfl) ?_
  intro γ w n o hW hop
  have hc_c4 := rq_at (RCC.kp hW) ok.c4
  have hc_px := rq_at (RCC.kp hW) ok.px
  have hc_py := rq_at (RCC.kp hW) ok.py
  have hc_q0 := rq_at (RCC.kp hW) ok.q0
  have hc_q1 := rq_at (RCC.kp hW) ok.q1
  unfold execOp
  rw [hop]
  simp [envR, valG, RCC.av, RCC.val0, hc_c4, ok.h0, ok.wm, ok.hm, hc_px, hc_py, hc_q0, hc_q1, go_sem]
theorem RCC.rest (X : RCC) (ok : RCCOk X) {Q : PQ} : ∀ i ∈ [1], RCC.St X Q i := by
 simp only [List.forall_mem_cons]
 exact ⟨st_callK RCA.isL (RCC.ini ok) ok.sz rfl (by kernel_rfl) (fun _ _ => by simp [go_sem]) (fun γ w n hW => gap_k ok.ca ok.hg (RCC.kp hW)) (fun _ _ _ _ hW hk => RCC.keep hW hk), List.forall_mem_nil _⟩
theorem RCC.steps (X : RCC) (ok : RCCOk X) {Q : PQ} (i : Nat) (hi : i < (opsOf 1 Tryz.f32).size) : RCC.St X Q i := by
 rw [RCA.size] at hi
 rcases (by decide : ∀ i, i < 26 → i ∈ [0, 2, 25] ∨ i ∈ [3, 4, 5, 6, 7, 8, 9, 10, 11, 12, 13, 14, 15, 16, 17, 18, 19, 20, 21, 22, 23, 24] ∨ i ∈ [1]) i hi with h | h | h
 · exact RCC.plain X ok i h
 · exact RCC.want X ok i h
 · exact RCC.rest X ok i h
theorem RCC.run (X : RCC) (ok : RCCOk X) {Q : PQ} (w : World) (h0 : X.Wd 0 (fun _ => undef) w.drew) (hend : ∀ (γ : Nat → Value) w', X.Wd 0 γ w' → Q .normal ((((((((((((((((((((((((((X.a0.put (some 4) (.pointer (some ⟨X.bx, 0, none⟩))).put (some 5) (.bool false)).put (some 6) (.bool false)).put (some 7) (.pointer (some ⟨X.bx, 0, none⟩))).put (some 8) (.pointer (some ⟨X.bx, 0, none⟩))).put (some 9) (.pointer (some ⟨X.bx, 4, none⟩))).put (some 10) (.slice (some ⟨X.g, 0, none⟩) X.n X.uc)).put (some 11) (.int .i64 (X.n : Int))).put (some 12) (.bool true)).put (some 13) (.bool true)).put (some 14) (.pointer (some ⟨X.bx, 0, none⟩))).put (some 15) (.pointer (some ⟨X.bx, 0, none⟩))).put (some 16) (.pointer (some ⟨X.bx, 4, none⟩))).put (some 17) (.slice (some ⟨X.g, 0, none⟩) X.n X.uc)).put (some 18) (.pointer (some ⟨X.bx, 0, none⟩))).put (some 19) (.pointer (some ⟨X.bx, 0, none⟩))).put (some 20) (.pointer (some ⟨X.bx, 4, none⟩))).put (some 21) (.slice (some ⟨X.g, 0, none⟩) X.n X.uc)).put (some 22) (.int .i64 (X.n : Int))).put (some 23) (.int .i64 (X.m : Int))).put (some 24) (.pointer (some ⟨X.g, X.m * 2, none⟩))).put (some 25) (.agg #[.int .i64 X.x, .int .i64 X.y])).put (some 26) (.agg #[.int .i64 X.x, .int .i64 X.y])).put (some 27) (.bool true)).put (some 28) (.bool true)).put (some 29) (.bool true)) w') : (Code.region 1 (opsOf 1 Tryz.f32) true).wp Tryz.prog Q X.a0 w := by
 refine reg_act (acts := RCC.acts) (av := RCC.av) (val0 := X.val0) (Wd := X.Wd) (by kernel_rfl) (by kernel_rfl) (by rw [RCA.size]; decide) (fun i hi => RCC.steps X ok i hi) _ h0 ?_
 intro γ w' h
 exact end_at (hend γ w' h) (by kernel_rfl)
structure RCD where
 bx : Nat
 bq : Nat
 x : Int
 y : Int
 a : Int
 g : Nat
 n : Nat
 m : Nat
 uc : Nat
 lx : Int
 ly : Int
 W : World
 a0 : Act
structure RCDOk (X : RCD) : Prop where
 q0 : X.W.cell? ⟨X.bq, 0, none⟩ = some (.int .i64 X.x)
 q1 : X.W.cell? ⟨X.bq, 1, none⟩ = some (.int .i64 X.y)
 c4 : X.W.cell? ⟨X.bx, 4, none⟩ = some (.slice (some ⟨X.g, 0, none⟩) X.n X.uc)
 ca : X.W.cell? ⟨X.bx, 1, none⟩ = some (.int .i64 X.a)
 hg : decide (X.a.tmod 2 = 1) = false
 h0 : 0 < X.n
 wm : IntKind.i64.wrap ((X.n : Int) - 1) = (X.m : Int)
 hm : X.m < X.n
 px : X.W.cell? ⟨X.g, X.m * 2, none⟩ = some (.int .i64 X.lx)
 py : X.W.cell? ⟨X.g, X.m * 2 + 1, none⟩ = some (.int .i64 X.ly)
 hv : X.lx = X.x → ¬X.ly = X.y
 e0 : X.a0.eval (.tmp 0) = .pointer (some ⟨X.bx, 0, none⟩)
 e3 : X.a0.eval (.tmp 3) = .pointer (some ⟨X.bq, 0, none⟩)
 sz : X.a0.tmps.size = 36
def RCD.val0 (X : RCD) : Nat → Value
 | 0 => .pointer (some ⟨X.bx, 0, none⟩)
 | 3 => .pointer (some ⟨X.bq, 0, none⟩)
 | 4 => .pointer (some ⟨X.bx, 0, none⟩)
 | 5 => .bool false
 | 6 => .bool false
 | 7 => .pointer (some ⟨X.bx, 0, none⟩)
 | 8 => .pointer (some ⟨X.bx, 0, none⟩)
 | 9 => .pointer (some ⟨X.bx, 4, none⟩)
 | 10 => .slice (some ⟨X.g, 0, none⟩) X.n X.uc
 | 11 => .int .i64 (X.n : Int)
 | 12 => .bool true
 | 13 => .bool true
 | 14 => .pointer (some ⟨X.bx, 0, none⟩)
 | 15 => .pointer (some ⟨X.bx, 0, none⟩)
 | 16 => .pointer (some ⟨X.bx, 4, none⟩)
 | 17 => .slice (some ⟨X.g, 0, none⟩) X.n X.uc
 | 18 => .pointer (some ⟨X.bx, 0, none⟩)
 | 19 => .pointer (some ⟨X.bx, 0, none⟩)
 | 20 => .pointer (some ⟨X.bx, 4, none⟩)
 | 21 => .slice (some ⟨X.g, 0, none⟩) X.n X.uc
 | 22 => .int .i64 (X.n : Int)
 | 23 => .int .i64 (X.m : Int)
 | 24 => .pointer (some ⟨X.g, X.m * 2, none⟩)
 | 25 => .agg #[.int .i64 X.lx, .int .i64 X.ly]
 | 26 => .agg #[.int .i64 X.x, .int .i64 X.y]
 | 27 => .bool false
 | 28 => .bool false
 | 29 => .bool false
 | _ => undef
def RCD.av : Nat → Option Nat
 | _ => none
def RCD.acts : List Nat := []
def RCD.Wd (X : RCD) : Nat → (Nat → Value) → World → Prop
  | _, _, w => Kp X.W w
theorem RCD.kp {X : RCD} {n : Nat} {γ : Nat → Value} {w : World} (h : X.Wd n γ w) : Kp X.W w := h
theorem RCD.keep {X : RCD} {n : Nat} {γ : Nat → Value} {w w' : World} (h : X.Wd n γ w) (k : Kp w w') : X.Wd n γ w' := Kp.trans h k
theorem RCD.ini {X : RCD} (ok : RCDOk X) : ∀ n ∈ [0, 3], X.a0.eval (.tmp n) = X.val0 n := by
 simp only [List.forall_mem_cons]
 exact ⟨ok.e0, ok.e3, List.forall_mem_nil _⟩
abbrev RCD.St (X : RCD) (Q : PQ) (i : Nat) : Prop := StepG (opsOf 1 Tryz.f32) RCD.acts RCD.av X.val0 X.Wd X.a0 Q i
theorem RCD.plain (X : RCD) (ok : RCDOk X) {Q : PQ} : ∀ i ∈ [0, 2, 25], RCD.St X Q i := by
 simp only [List.forall_mem_cons]
 refine ⟨?_, ?_, ?_, List.forall_mem_nil _⟩
 all_goals
  refine st_plain RCA.isL (RCD.ini ok) ok.sz rfl (by kernel_rfl) ?_
  intro γ w n o hW hop
  have hc_c4 := rq_at (RCD.kp hW) ok.c4
  have hc_px := rq_at (RCD.kp hW) ok.px
  have hc_py := rq_at (RCD.kp hW) ok.py
  have hc_q0 := rq_at (RCD.kp hW) ok.q0
  have hc_q1 := rq_at (RCD.kp hW) ok.q1
  unfold execOp
  rw [hop]
  simp [envR, valG, RCD.av, RCD.val0, hc_c4, ok.h0, ok.wm, ok.hm, hc_px, hc_py, hc_q0, hc_q1, go_sem]
  try exact ok.hv
theorem RCD.want (X : RCD) (ok : RCDOk X) {Q : PQ} : ∀ i ∈ [3, 4, 5, 6, 7, 8, 9, 10, 11, 12, 13, 14, 15, 16, 17, 18, 19, 20, 21, 22, 23, 24], RCD.St X Q i := by
 simp only [List.forall_mem_cons]
 refine ⟨?_, ?_, ?_, ?_, ?_, ?_, ?_, ?_, ?_, ?_, ?_, ?_, ?_, ?_, ?_, ?_, ?_, ?_, ?_, ?_, ?_, ?_, List.forall_mem_nil _⟩
 all_goals
  refine st_plainW RCA.isL (RCD.ini ok) ok.sz rfl rfl rfl (by kernel_rfl) ?_
  intro γ w n o hW hop
  have hc_c4 := rq_at (RCD.kp hW) ok.c4
  have hc_px := rq_at (RCD.kp hW) ok.px
  have hc_py := rq_at (RCD.kp hW) ok.py
  have hc_q0 := rq_at (RCD.kp hW) ok.q0
  have hc_q1 := rq_at (RCD.kp hW) ok.q1
  unfold execOp
  rw [hop]
  simp [envR, valG, RCD.av, RCD.val0, hc_c4, ok.h0, ok.wm, ok.hm, hc_px, hc_py, hc_q0, hc_q1, go_sem]
  try exact ok.hv
theorem RCD.rest (X : RCD) (ok : RCDOk X) {Q : PQ} : ∀ i ∈ [1], RCD.St X Q i := by
 simp only [List.forall_mem_cons]
 exact ⟨st_callK RCA.isL (RCD.ini ok) ok.sz rfl (by kernel_rfl) (fun _ _ => by simp [go_sem]) (fun γ w n hW => gap_k ok.ca ok.hg (RCD.kp hW)) (fun _ _ _ _ hW hk => RCD.keep hW hk), List.forall_mem_nil _⟩
theorem RCD.steps (X : RCD) (ok : RCDOk X) {Q : PQ} (i : Nat) (hi : i < (opsOf 1 Tryz.f32).size) : RCD.St X Q i := by
 rw [RCA.size] at hi
 rcases (by decide : ∀ i, i < 26 → i ∈ [0, 2, 25] ∨ i ∈ [3, 4, 5, 6, 7, 8, 9, 10, 11, 12, 13, 14, 15, 16, 17, 18, 19, 20, 21, 22, 23, 24] ∨ i ∈ [1]) i hi with h | h | h
 · exact RCD.plain X ok i h
 · exact RCD.want X ok i h
 · exact RCD.rest X ok i h
theorem RCD.run (X : RCD) (ok : RCDOk X) {Q : PQ} (w : World) (h0 : X.Wd 0 (fun _ => undef) w.drew) (hend : ∀ (γ : Nat → Value) w', X.Wd 0 γ w' → Q .normal ((((((((((((((((((((((((((X.a0.put (some 4) (.pointer (some ⟨X.bx, 0, none⟩))).put (some 5) (.bool false)).put (some 6) (.bool false)).put (some 7) (.pointer (some ⟨X.bx, 0, none⟩))).put (some 8) (.pointer (some ⟨X.bx, 0, none⟩))).put (some 9) (.pointer (some ⟨X.bx, 4, none⟩))).put (some 10) (.slice (some ⟨X.g, 0, none⟩) X.n X.uc)).put (some 11) (.int .i64 (X.n : Int))).put (some 12) (.bool true)).put (some 13) (.bool true)).put (some 14) (.pointer (some ⟨X.bx, 0, none⟩))).put (some 15) (.pointer (some ⟨X.bx, 0, none⟩))).put (some 16) (.pointer (some ⟨X.bx, 4, none⟩))).put (some 17) (.slice (some ⟨X.g, 0, none⟩) X.n X.uc)).put (some 18) (.pointer (some ⟨X.bx, 0, none⟩))).put (some 19) (.pointer (some ⟨X.bx, 0, none⟩))).put (some 20) (.pointer (some ⟨X.bx, 4, none⟩))).put (some 21) (.slice (some ⟨X.g, 0, none⟩) X.n X.uc)).put (some 22) (.int .i64 (X.n : Int))).put (some 23) (.int .i64 (X.m : Int))).put (some 24) (.pointer (some ⟨X.g, X.m * 2, none⟩))).put (some 25) (.agg #[.int .i64 X.lx, .int .i64 X.ly])).put (some 26) (.agg #[.int .i64 X.x, .int .i64 X.y])).put (some 27) (.bool false)).put (some 28) (.bool false)).put (some 29) (.bool false)) w') : (Code.region 1 (opsOf 1 Tryz.f32) true).wp Tryz.prog Q X.a0 w := by
 refine reg_act (acts := RCD.acts) (av := RCD.av) (val0 := X.val0) (Wd := X.Wd) (by kernel_rfl) (by kernel_rfl) (by rw [RCA.size]; decide) (fun i hi => RCD.steps X ok i hi) _ h0 ?_
 intro γ w' h
 exact end_at (hend γ w' h) (by kernel_rfl)
structure RC2 where
 bx : Nat
 bq : Nat
 x : Int
 y : Int
 P : World → Prop
 W : World
 a0 : Act
structure RC2Ok (X : RC2) : Prop where
 q0 : X.W.cell? ⟨X.bq, 0, none⟩ = some (.int .i64 X.x)
 q1 : X.W.cell? ⟨X.bq, 1, none⟩ = some (.int .i64 X.y)
 ha : Calls Tryz.prog 61 #[.pointer (some ⟨X.bx, 4, none⟩), .slice (some ⟨X.W.heap.size, 0, none⟩) 1 1] (X.W.alloc (.cells #[.int .i64 X.x, .int .i64 X.y] 34)) fun e w' => e = .returned (.tuple #[]) ∧ X.P w'
 e0 : X.a0.eval (.tmp 0) = .pointer (some ⟨X.bx, 0, none⟩)
 e3 : X.a0.eval (.tmp 3) = .pointer (some ⟨X.bq, 0, none⟩)
 sz : X.a0.tmps.size = 36
def RC2.val0 (X : RC2) : Nat → Value
 | 0 => .pointer (some ⟨X.bx, 0, none⟩)
 | 3 => .pointer (some ⟨X.bq, 0, none⟩)
 | 30 => .pointer (some ⟨X.bx, 0, none⟩)
 | 31 => .pointer (some ⟨X.bx, 0, none⟩)
 | 32 => .pointer (some ⟨X.bx, 4, none⟩)
 | 33 => .agg #[.int .i64 X.x, .int .i64 X.y]
 | _ => undef
def RC2.av : Nat → Option Nat
 | 34 => some 0
 | 35 => some 1
 | _ => none
def RC2.acts : List Nat := [4, 5]
def RC2.Wd (X : RC2) : Nat → (Nat → Value) → World → Prop
  | 0, _, w => w = X.W
  | 1, γ, w => γ 0 = .slice (some ⟨X.W.heap.size, 0, none⟩) 1 1 ∧ w = X.W.alloc (.cells #[.int .i64 X.x, .int .i64 X.y] 34)
  | _, _, w => X.P w
theorem RC2.chain : chainG (opsOf 2 Tryz.f32) RC2.acts = true := by kernel_rfl
theorem RC2.nodup : RC2.acts.Nodup := by decide
def RC2.L : List (Option Nat × Op × Option (Nat × Bool)) := [
 (some 30, .move (.tmp 0), none),
 (some 31, .nilCheck (.tmp 30), none),
 (some 32, .fieldAddr 67 (.tmp 31) 4, none),
 (some 33, .load 34 (.tmp 3), none),
 (some 34, .buildSlice 23 1 #[(0, (.tmp 33))], none),
 (some 35, .call { callee := .value (.func 61), args := #[(.tmp 32), (.tmp 34)], argTypes := #[64, 23] }, none)]
theorem RC2.isL : (opsOf 2 Tryz.f32).toList.map tri = RC2.L := by kernel_rfl
theorem RC2.ini {X : RC2} (ok : RC2Ok X) : ∀ n ∈ [0, 3], X.a0.eval (.tmp n) = X.val0 n := by
 simp only [List.forall_mem_cons]
 exact ⟨ok.e0, ok.e3, List.forall_mem_nil _⟩
abbrev RC2.St (X : RC2) (Q : PQ) (i : Nat) : Prop := StepG (opsOf 2 Tryz.f32) RC2.acts RC2.av X.val0 X.Wd X.a0 Q i
theorem RC2.plain (X : RC2) (ok : RC2Ok X) {Q : PQ} : ∀ i ∈ [0, 1, 2], RC2.St X Q i := by
 simp only [List.forall_mem_cons]
 refine ⟨?_, ?_, ?_, List.forall_mem_nil _⟩
 all_goals
  refine st_plain RC2.isL (RC2.ini ok) ok.sz rfl (by kernel_rfl) ?_
  intro γ w n o hW hop
  unfold execOp
  rw [hop]
  simp [envR, valG, RC2.av, RC2.val0, go_sem]
theorem RC2.soon (X : RC2) (ok : RC2Ok X) {Q : PQ} : ∀ i ∈ [3], RC2.St X Q i := by
 simp only [List.forall_mem_cons]
 refine ⟨?_, List.forall_mem_nil _⟩
 all_goals
  refine st_plainM (m := 0) RC2.isL (RC2.ini ok) ok.sz rfl (by kernel_rfl) ?_
  intro γ w n o hn hW hop
  obtain rfl : n = 0 := by omega
  have hk : w = X.W := hW
  subst hk
  unfold execOp
  rw [hop]
  simp [envR, valG, RC2.av, RC2.val0, ok.q0, ok.q1, go_sem]
theorem RC2.s4 (X : RC2) (ok : RC2Ok X) {Q : PQ} : RC2.St X Q 4 := by
 intro γ listed a w o hF hC hW h1 ho h2
 obtain ⟨hd, hop, hg⟩ := fieldsL RC2.isL (i := 4) rfl ho
 have e33 : a.eval (.tmp 33) = .agg #[.int .i64 X.x, .int .i64 X.y] := known hF ho h2 (RC2.ini ok) ok.sz (by kernel_rfl)
 have hu := unl (hF.lt ho) h1
 refine st_actG (k := 0) RC2.chain RC2.nodup rfl hF hC hW h1 ho h2 (Or.inr ⟨34, hd, rfl⟩) (injG (by kernel_rfl) hu) hg ?_
 intro hW0 K hK
 have hw0 : w = X.W := hW0
 have hr : (execOp a.eval o).run Tryz.prog w = .ok (.value (.slice (some ⟨w.heap.size, 0, none⟩) 1 1)) (w.alloc (.cells #[.int .i64 X.x, .int .i64 X.y] 34)) := by
  generalize a.eval = ρ at e33 ⊢
  unfold execOp
  rw [hop]
  simp [e33, go_sem]
 unfold Oper.wp
 rw [hr, hw0]
 exact hK _ _ ⟨rfl, rfl⟩
theorem RC2.s5 (X : RC2) (ok : RC2Ok X) {Q : PQ} : RC2.St X Q 5 := by
 intro γ listed a w o hF hC hW h1 ho h2
 obtain ⟨hd, hop, hg⟩ := fieldsL RC2.isL (i := 5) rfl ho
 have e32 : a.eval (.tmp 32) = .pointer (some ⟨X.bx, 4, none⟩) := known hF ho h2 (RC2.ini ok) ok.sz (by kernel_rfl)
 have e34 : a.eval (.tmp 34) = γ 0 := known hF ho h2 (RC2.ini ok) ok.sz (by kernel_rfl)
 have ef : a.eval (.func 61) = .func (.func 61) #[] #[] := rfl
 have hu := unl (hF.lt ho) h1
 refine st_actG (k := 1) RC2.chain RC2.nodup rfl hF hC hW h1 ho h2 (Or.inr ⟨35, hd, rfl⟩) (injG (by kernel_rfl) hu) hg ?_
 intro hW0 K hK
 obtain ⟨g0, hw1⟩ := hW0
 rw [g0] at e34
 have hr : (execOp a.eval o).run Tryz.prog w = .ok (.enter 61 #[.pointer (some ⟨X.bx, 4, none⟩), .slice (some ⟨X.W.heap.size, 0, none⟩) 1 1]) w := by
  generalize a.eval = ρ at e32 e34 ef ⊢
  unfold execOp
  rw [hop]
  simp [e32, e34, ef, go_sem]
 unfold Oper.wp
 rw [hr]
 refine Calls.mono (by rw [hw1]; exact ok.ha) ?_
 rintro e w' ⟨rfl, h⟩
 exact hK _ _ h
theorem RC2.size : (opsOf 2 Tryz.f32).size = 6 := by kernel_rfl
theorem RC2.rest (X : RC2) (ok : RC2Ok X) {Q : PQ} : ∀ i ∈ [4, 5], RC2.St X Q i := by
 simp only [List.forall_mem_cons]
 exact ⟨RC2.s4 X ok,
  RC2.s5 X ok, List.forall_mem_nil _⟩
theorem RC2.steps (X : RC2) (ok : RC2Ok X) {Q : PQ} (i : Nat) (hi : i < (opsOf 2 Tryz.f32).size) : RC2.St X Q i := by
 rw [RC2.size] at hi
 rcases (by decide : ∀ i, i < 6 → i ∈ [0, 1, 2] ∨ i ∈ [3] ∨ i ∈ [4, 5]) i hi with h | h | h
 · exact RC2.plain X ok i h
 · exact RC2.soon X ok i h
 · exact RC2.rest X ok i h
theorem RC2.run (X : RC2) (ok : RC2Ok X) {Q : PQ} (w : World) (h0 : X.Wd 0 (fun _ => undef) w.drew) (hend : ∀ (γ : Nat → Value) w', X.Wd 2 γ w' → Q .normal ((((((X.a0.put (some 30) (.pointer (some ⟨X.bx, 0, none⟩))).put (some 31) (.pointer (some ⟨X.bx, 0, none⟩))).put (some 32) (.pointer (some ⟨X.bx, 4, none⟩))).put (some 33) (.agg #[.int .i64 X.x, .int .i64 X.y])).put (some 34) (γ 0)).put (some 35) (γ 1)) w') : (Code.region 2 (opsOf 2 Tryz.f32) true).wp Tryz.prog Q X.a0 w := by
 refine reg_act (acts := RC2.acts) (av := RC2.av) (val0 := X.val0) (Wd := X.Wd) (by kernel_rfl) (by kernel_rfl) (by rw [RC2.size]; decide) (fun i hi => RC2.steps X ok i hi) _ h0 ?_
 intro γ w' h
 exact end_at (hend γ w' h) (by kernel_rfl)
structure LYR where
 bx : Nat
 ua : Option Addr
 un : Nat
 uc : Nat
 P : World → Prop
 W : World
 a0 : Act
structure LYROk (X : LYR) : Prop where
 c4 : X.W.cell? ⟨X.bx, 4, none⟩ = some (.slice X.ua X.un X.uc)
 ha : Calls Tryz.prog 44 #[.pointer (some ⟨X.bx, 5, none⟩), .slice (some ⟨X.W.heap.size, 0, none⟩) 1 1] (X.W.alloc (.cells #[.slice X.ua X.un X.uc, .bool false] 25)) fun e w' => e = .returned (.tuple #[]) ∧ X.P w'
 e0 : X.a0.eval (.tmp 0) = .pointer (some ⟨X.bx, 0, none⟩)
 sz : X.a0.tmps.size = 21
def LYR.val0 (X : LYR) : Nat → Value
 | 0 => .pointer (some ⟨X.bx, 0, none⟩)
 | 8 => .pointer (some ⟨X.bx, 0, none⟩)
 | 9 => .pointer (some ⟨X.bx, 0, none⟩)
 | 10 => .pointer (some ⟨X.bx, 5, none⟩)
 | 11 => .pointer (some ⟨X.bx, 0, none⟩)
 | 12 => .pointer (some ⟨X.bx, 0, none⟩)
 | 13 => .pointer (some ⟨X.bx, 4, none⟩)
 | 14 => .slice X.ua X.un X.uc
 | 15 => .agg #[.slice X.ua X.un X.uc, .bool false]
 | _ => undef
def LYR.av : Nat → Option Nat
 | 16 => some 0
 | 17 => some 1
 | _ => none
def LYR.acts : List Nat := [8, 9]
def LYR.Wd (X : LYR) : Nat → (Nat → Value) → World → Prop
  | 0, _, w => w = X.W
  | 1, γ, w => γ 0 = .slice (some ⟨X.W.heap.size, 0, none⟩) 1 1 ∧ w = X.W.alloc (.cells #[.slice X.ua X.un X.uc, .bool false] 25)
  | _, _, w => X.P w
theorem LYR.chain : chainG (opsOf 1 Tryz.f34) LYR.acts = true := by kernel_rfl
theorem LYR.nodup : LYR.acts.Nodup := by decide
def LYR.L : List (Option Nat × Op × Option (Nat × Bool)) := [
 (some 8, .move (.tmp 0), none),
 (some 9, .nilCheck (.tmp 8), none),
 (some 10, .fieldAddr 67 (.tmp 9) 5, none),
 (some 11, .move (.tmp 0), none),
 (some 12, .nilCheck (.tmp 11), none),
 (some 13, .fieldAddr 67 (.tmp 12) 4, none),
 (some 14, .load 64 (.tmp 13), none),
 (some 15, .build 25 #[(0, (.tmp 14))], none),
 (some 16, .buildSlice 29 1 #[(0, (.tmp 15))], none),
 (some 17, .call { callee := .value (.func 44), args := #[(.tmp 10), (.tmp 16)], argTypes := #[65, 29] }, none)]
theorem LYR.isL : (opsOf 1 Tryz.f34).toList.map tri = LYR.L := by kernel_rfl
theorem LYR.ini {X : LYR} (ok : LYROk X) : ∀ n ∈ [0], X.a0.eval (.tmp n) = X.val0 n := by
 simp only [List.forall_mem_cons]
 exact ⟨ok.e0, List.forall_mem_nil _⟩
abbrev LYR.St (X : LYR) (Q : PQ) (i : Nat) : Prop := StepG (opsOf 1 Tryz.f34) LYR.acts LYR.av X.val0 X.Wd X.a0 Q i
theorem LYR.plain (X : LYR) (ok : LYROk X) {Q : PQ} : ∀ i ∈ [0, 1, 2, 3, 4, 5, 7], LYR.St X Q i := by
 simp only [List.forall_mem_cons]
 refine ⟨?_, ?_, ?_, ?_, ?_, ?_, ?_, List.forall_mem_nil _⟩
 all_goals
  refine st_plain LYR.isL (LYR.ini ok) ok.sz rfl (by kernel_rfl) ?_
  intro γ w n o hW hop
  unfold execOp
  rw [hop]
  simp [envR, valG, LYR.av, LYR.val0, go_sem]
theorem LYR.soon (X : LYR) (ok : LYROk X) {Q : PQ} : ∀ i ∈ [6], LYR.St X Q i := by
 simp only [List.forall_mem_cons]
 refine ⟨?_, List.forall_mem_nil _⟩
 all_goals
  refine st_plainM (m := 0) LYR.isL (LYR.ini ok) ok.sz rfl (by kernel_rfl) ?_
  intro γ w n o hn hW hop
  obtain rfl : n = 0 := by omega
  have hk : w = X.W := hW
  subst hk
  unfold execOp
  rw [hop]
  simp [envR, valG, LYR.av, LYR.val0, ok.c4, go_sem]
theorem LYR.s8 (X : LYR) (ok : LYROk X) {Q : PQ} : LYR.St X Q 8 := by
 intro γ listed a w o hF hC hW h1 ho h2
 obtain ⟨hd, hop, hg⟩ := fieldsL LYR.isL (i := 8) rfl ho
 have e15 : a.eval (.tmp 15) = .agg #[.slice X.ua X.un X.uc, .bool false] := known hF ho h2 (LYR.ini ok) ok.sz (by kernel_rfl)
 have hu := unl (hF.lt ho) h1
 refine st_actG (k := 0) LYR.chain LYR.nodup rfl hF hC hW h1 ho h2 (Or.inr ⟨16, hd, rfl⟩) (injG (by kernel_rfl) hu) hg ?_
 intro hW0 K hK
 have hw0 : w = X.W := hW0
 have hr : (execOp a.eval o).run Tryz.prog w = .ok (.value (.slice (some ⟨w.heap.size, 0, none⟩) 1 1)) (w.alloc (.cells #[.slice X.ua X.un X.uc, .bool false] 25)) := by
  generalize a.eval = ρ at e15 ⊢
  unfold execOp
  rw [hop]
  simp [e15, go_sem]
 unfold Oper.wp
 rw [hr, hw0]
 exact hK _ _ ⟨rfl, rfl⟩
theorem LYR.s9 (X : LYR) (ok : LYROk X) {Q : PQ} : LYR.St X Q 9 := by
 intro γ listed a w o hF hC hW h1 ho h2
 obtain ⟨hd, hop, hg⟩ := fieldsL LYR.isL (i := 9) rfl ho
 have e10 : a.eval (.tmp 10) = .pointer (some ⟨X.bx, 5, none⟩) := known hF ho h2 (LYR.ini ok) ok.sz (by kernel_rfl)
 have e16 : a.eval (.tmp 16) = γ 0 := known hF ho h2 (LYR.ini ok) ok.sz (by kernel_rfl)
 have ef : a.eval (.func 44) = .func (.func 44) #[] #[] := rfl
 have hu := unl (hF.lt ho) h1
 refine st_actG (k := 1) LYR.chain LYR.nodup rfl hF hC hW h1 ho h2 (Or.inr ⟨17, hd, rfl⟩) (injG (by kernel_rfl) hu) hg ?_
 intro hW0 K hK
 obtain ⟨g0, hw1⟩ := hW0
 rw [g0] at e16
 have hr : (execOp a.eval o).run Tryz.prog w = .ok (.enter 44 #[.pointer (some ⟨X.bx, 5, none⟩), .slice (some ⟨X.W.heap.size, 0, none⟩) 1 1]) w := by
  generalize a.eval = ρ at e10 e16 ef ⊢
  unfold execOp
  rw [hop]
  simp [e10, e16, ef, go_sem]
 unfold Oper.wp
 rw [hr]
 refine Calls.mono (by rw [hw1]; exact ok.ha) ?_
 rintro e w' ⟨rfl, h⟩
 exact hK _ _ h
theorem LYR.size : (opsOf 1 Tryz.f34).size = 10 := by kernel_rfl
theorem LYR.rest (X : LYR) (ok : LYROk X) {Q : PQ} : ∀ i ∈ [8, 9], LYR.St X Q i := by
 simp only [List.forall_mem_cons]
 exact ⟨LYR.s8 X ok,
  LYR.s9 X ok, List.forall_mem_nil _⟩
theorem LYR.steps (X : LYR) (ok : LYROk X) {Q : PQ} (i : Nat) (hi : i < (opsOf 1 Tryz.f34).size) : LYR.St X Q i := by
 rw [LYR.size] at hi
 rcases (by decide : ∀ i, i < 10 → i ∈ [0, 1, 2, 3, 4, 5, 7] ∨ i ∈ [6] ∨ i ∈ [8, 9]) i hi with h | h | h
 · exact LYR.plain X ok i h
 · exact LYR.soon X ok i h
 · exact LYR.rest X ok i h
theorem LYR.run (X : LYR) (ok : LYROk X) {Q : PQ} (w : World) (h0 : X.Wd 0 (fun _ => undef) w.drew) (hend : ∀ (γ : Nat → Value) w', X.Wd 2 γ w' → Q .normal ((((((((((X.a0.put (some 8) (.pointer (some ⟨X.bx, 0, none⟩))).put (some 9) (.pointer (some ⟨X.bx, 0, none⟩))).put (some 10) (.pointer (some ⟨X.bx, 5, none⟩))).put (some 11) (.pointer (some ⟨X.bx, 0, none⟩))).put (some 12) (.pointer (some ⟨X.bx, 0, none⟩))).put (some 13) (.pointer (some ⟨X.bx, 4, none⟩))).put (some 14) (.slice X.ua X.un X.uc)).put (some 15) (.agg #[.slice X.ua X.un X.uc, .bool false])).put (some 16) (γ 0)).put (some 17) (γ 1)) w') : (Code.region 1 (opsOf 1 Tryz.f34) true).wp Tryz.prog Q X.a0 w := by
 refine reg_act (acts := LYR.acts) (av := LYR.av) (val0 := X.val0) (Wd := X.Wd) (by kernel_rfl) (by kernel_rfl) (by rw [LYR.size]; decide) (fun i hi => LYR.steps X ok i hi) _ h0 ?_
 intro γ w' h
 exact end_at (hend γ w' h) (by kernel_rfl)
def endL (o : List LD) (p : List Pnt) (c : Bool) : List LD := if 1 < p.length then o ++ [⟨p, c⟩] else o
def lastP (p : List Pnt) : Pnt := ptAt p (p.length - 1)
theorem manyL_app (a b : List LD) : manyL (a ++ b) = manyL a + manyL b := by simp [manyL]
theorem endL_many (o : List LD) (p : List Pnt) (c : Bool) : manyL (endL o p c) ≤ manyL o + p.length := by
 unfold endL
 split
 ·rw [manyL_app]; simp [manyL]
 ·omega
theorem endL_len (o : List LD) (p : List Pnt) (c : Bool) : (endL o p c).length ≤ o.length + 1 := by
 unfold endL
 split <;> simp
theorem ins_parts : ∃ i, Tryz.prog.info? 3 = some i ∧ i.zero = some (.int .i64 0) ∧ i.size = 1 ∧ i.bytes = 8 := by
 have h : (Tryz.prog.info? 3).map (fun i => (i.zero, i.size, i.bytes)) = some (some (.int .i64 0), 1, 8) := by kernel_rfl
 obtain ⟨i, hi, hzz⟩ := Option.map_eq_some_iff.1 h
 simp only [Prod.mk.injEq] at hzz
 exact ⟨i, hi, hzz⟩
def Ins (w : World) (B : Nat) (v : Value) (l : List Int) : Prop := w.ownsRow B 3 1 v l.length (l.map (Value.int .i64))
theorem Ins.nil (w : World) (B : Nat) : Ins w B (.slice none 0 0) [] := World.ownsRow_nil w B _ 1
theorem Ins.nw {w w' : World} {B : Nat} {v : Value} {l : List Int} (h : Ins w B v l) (k : Nw w w') : Ins w' B v l :=
 World.ownsRow.kept h (row := none) ⟨Below.os k, Below.tape k, Below.output k, Below.size k, fun b hb _ => Below.block k b hb⟩ (by cases hv : v.ownBlock <;> simp)
theorem Ins.below {w w' : World} {B : Nat} {v v' : Value} {l : List Int} (h : Ins w B v l) (k : Ext v v' w w') (hB : B ≤ w.heap.size) : Below B w w' :=
 k.below (fun g e => (World.ownsRow.lt h g e).1) hB
def intAt (l : List Int) (i : Nat) : Int := l.getD i 0
def LayI (w : World) (g : Nat) (l : List Int) : Prop :=
 g < w.heap.size ∧ (∀ i, i < l.length → w.cell? ⟨g, i, none⟩ = some (.int .i64 (intAt l i))) ∧ ∀ o, w.frozen? ⟨g, o, none⟩ = false
theorem LayI.nw {w w' : World} {g : Nat} {l : List Int} (h : LayI w g l) (k : Nw w w') : LayI w' g l :=
 ⟨Nat.lt_of_lt_of_le h.1 (Below.size k), fun i hi => ((bcell k).1 _ _ h.1).trans (h.2.1 i hi), fun o => ((bcell k).2 _ _ h.1).trans (h.2.2 o)⟩
theorem Ins.lay {w : World} {B : Nat} {v : Value} {l : List Int} (h : Ins w B v l) : (v = .slice none 0 0 ∧ l = []) ∨ ∃ g c, v = .slice (some ⟨g, 0, none⟩) l.length c ∧ B ≤ g ∧ LayI w g l := by
 rcases h.2 with ⟨hn, h0⟩ | ⟨g, cap, cur, h1, h2, h3⟩
 ·exact Or.inl ⟨hn, List.eq_nil_of_length_eq_zero h0⟩
 ·refine Or.inr ⟨g, cap, h1, h2, ?_⟩
  subst h1
  refine ⟨(World.ownsRow.lt h g rfl).2, fun i hi => ?_, fun o => World.ownsRow.frozenAt h o⟩
  have := World.ownsRow.cellAt h i (by omega)
  rw [this]
  simp [intAt, hi]
end Go.Proofs.YtfdjjbgcaojcnaaGreat
