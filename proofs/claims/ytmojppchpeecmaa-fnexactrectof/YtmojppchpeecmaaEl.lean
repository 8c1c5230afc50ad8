/-
  EllipseOf of both; each theorem names its conditions.
-/
import Derived.Test.YtmojppchpeecmaaOv
import Derived.Test.YtmojppchpeecmaaLn
import Derived.Test.YtmojppchpeecmaaBx
namespace Go.Proofs.Ytmojppchpeecmaa
open Go.ChangeShapes Go.WideShapes Go.ChangeAt Go.RowKit
set_option linter.unusedVariables false

abbrev lnV (v : Value) (c : Bool) : Value := .agg #[v, .bool c]
set_option maxHeartbeats 1000000 in
theorem iclosed_yes (w : World) (a : Option Addr) (c : Nat) (l : List Pnt) (hl : l.length ≤ 1048576) (hr : Pts w a l) (hg : ptsB l = true) :
    Calls Try.prog 72 #[.slice a l.length c] w fun e w' => e = .returned (.tuple #[.agg #[.slice a l.length c, .bool true], .bool true]) ∧ Kp w w' := by
  have HG : Hid _ := fun (w : World) (h : Pts w a l) => igoodPs w a c l hl h
  rw [hg] at HG
  have H1 : Hid _ := hr.nw ((Below.refl w.heap.size w).alloc (Nat.le_refl _) (.cells #[.slice none 0 0, .bool false] 55))
  clear hr hg
  go_enter Try.func72, Try.ntmps72
  go_wp2_with fail
  refine Calls.mono (HG.out _ H1.out) ?_
  rintro e w1 ⟨rfl, k1⟩
  have K1 : Hid _ := k1
  clear k1
  obtain ⟨z0, z1, zf, hz⟩ := box2 w w1 K1.out
  go_wp2
  obtain ⟨y0, y1⟩ := set2 w1 w.heap.size (.slice a l.length c) (.bool true) z0 z1
  refine bodyPost_ret (v := .tuple #[.agg #[.slice a l.length c, .bool true], .bool true]) (by simp [results, Try.results72, go_sem, y0, y1]) rfl ⟨rfl, ?_⟩
  exact ((kp_box K1.out).setCell (Nat.le_refl _) _).setCell (Nat.le_refl _) _
set_option maxHeartbeats 1000000 in
theorem iclosed_no (w : World) (a : Option Addr) (c : Nat) (l : List Pnt) (hl : l.length ≤ 1048576) (hr : Pts w a l) (hg : ptsB l = false) :
    Calls Try.prog 72 #[.slice a l.length c] w fun e w' => e = .returned (.tuple #[.agg #[.slice none 0 0, .bool false], .bool false]) ∧ Kp w w' := by
  have HG : Hid _ := fun (w : World) (h : Pts w a l) => igoodPs w a c l hl h
  rw [hg] at HG
  have H1 : Hid _ := hr.nw ((Below.refl w.heap.size w).alloc (Nat.le_refl _) (.cells #[.slice none 0 0, .bool false] 55))
  clear hr hg
  go_enter Try.func72, Try.ntmps72
  go_wp2_with fail
  refine Calls.mono (HG.out _ H1.out) ?_
  rintro e w1 ⟨rfl, k1⟩
  have K1 : Hid _ := k1
  clear k1
  obtain ⟨z0, z1, zf, hz⟩ := box2 w w1 K1.out
  go_wp2
  obtain ⟨y0, y1⟩ := set2 w1 w.heap.size (.slice none 0 0) (.bool false) z0 z1
  refine bodyPost_ret (v := .tuple #[.agg #[.slice none 0 0, .bool false], .bool false]) (by simp [results, Try.results72, go_sem, y0, y1]) rfl ⟨rfl, ?_⟩
  exact ((kp_box K1.out).setCell (Nat.le_refl _) _).setCell (Nat.le_refl _) _
/-- A list of points of the call's own made a closed line, where they are fixed. -/
theorem iclosed (w : World) (B : Nat) (v : Value) (l : List Pnt) (hl : l.length ≤ 1048576) (hr : OwnP w B v l) :
    Calls Try.prog 72 #[v] w fun e w' => ∃ v', e = .returned (.tuple #[.agg #[v', .bool (ptsB l)], .bool (ptsB l)]) ∧ OwnP w' B v' (if ptsB l = true then l else []) ∧ Kp w w' := by
  obtain ⟨a, c, rfl, hp⟩ := hr.pts
  cases hg : ptsB l with
  | true =>
    refine (iclosed_yes w a c l hl hp hg).mono ?_
    rintro e w' ⟨rfl, k⟩
    exact ⟨_, rfl, hr.nw k.nw, k⟩
  | false =>
    refine (iclosed_no w a c l hl hp hg).mono ?_
    rintro e w' ⟨rfl, k⟩
    exact ⟨_, rfl, OwnP.nil _ _, k⟩
def okEl (cx cy rx ry : Int) : Bool := [cx, cy, rx, ry].all fixB && (decide (0 ≤ rx) && decide (0 ≤ ry))
/-- What EllipseOf answers. -/
def elV (cx cy rx ry : Int) : List Pnt × Bool := if okEl cx cy rx ry = true ∧ ptsB (roundsP cx cy rx ry 0 32) = true then (roundsP cx cy rx ry 0 32, true) else ([], false)
theorem elV_len (cx cy rx ry : Int) : (elV cx cy rx ry).1.length ≤ 1048576 := by
  unfold elV
  split
  · rw [roundsP_len]; omega
  · simp
/-- A line that is answered with a word: points of the call's own. -/
def LnSays (f : FuncId) (args : Array Value) (r : List Pnt × Bool) : Prop := ∀ w, Calls Try.prog f args w fun e w' => ∃ v, e = .returned (.tuple #[.agg #[v, .bool r.2], .bool r.2]) ∧ OwnP w' w.heap.size v r.1 ∧ Nw w w'
abbrev elA (cx cy rx ry : Int) : Array Value := #[.int .i64 cx, .int .i64 cy, .int .i64 rx, .int .i64 ry]
theorem iall4 (cx cy rx ry : Int) (w : World) (b : Nat) (h0 : w.cell? ⟨b, 0, none⟩ = some (.int .i64 cx)) (h1 : w.cell? ⟨b, 1, none⟩ = some (.int .i64 cy)) (h2 : w.cell? ⟨b, 2, none⟩ = some (.int .i64 rx)) (h3 : w.cell? ⟨b, 3, none⟩ = some (.int .i64 ry)) :
    Calls Try.prog 71 #[.slice (some ⟨b, 0, none⟩) 4 4] w fun e w' => e = .returned (.bool ([cx, cy, rx, ry].all fixB)) ∧ w' = w :=
  iall_any w b 0 4 [cx, cy, rx, ry] (by simp) (fun i hi => by
    have : i = 0 ∨ i = 1 ∨ i = 2 ∨ i = 3 := by simp at hi; omega
    rcases this with rfl | rfl | rfl | rfl
    · exact h0
    · exact h1
    · exact h2
    · exact h3)
set_option maxHeartbeats 2000000 in
theorem iellipse (cx cy rx ry : Int) : LnSays 30 (elA cx cy rx ry) (elV cx cy rx ry) := by
  intro w
  have HA : Hid _ := fun w b h0 h1 h2 h3 => iall4 cx cy rx ry w b h0 h1 h2 h3
  unfold elA
  cases hf : [cx, cy, rx, ry].all fixB with
  | false =>
    rw [hf] at HA
    have e : elV cx cy rx ry = ([], false) := by unfold elV okEl; rw [if_neg (fun h => by rw [hf] at h; cases h.1)]
    rw [e]
    clear e hf
    go_enter Try.func30, Try.ntmps30
    go_wp2_with fail
    refine Calls.mono (HA.out _ _ (by simp) (by simp) (by simp) (by simp)) ?_
    rintro e w1 ⟨rfl, rfl⟩
    go_wp2
    refine bodyPost_ret (v := .tuple #[.agg #[.slice none 0 0, .bool false], .bool false]) (by simp [results, Try.results30, go_sem]) rfl ⟨_, rfl, OwnP.nil _ _, ?_⟩
    exact ((Kp.refl w).alloc _ _ |>.alloc _ _).nw
  | true =>
    rw [hf] at HA
    have hfx : fixB cx = true ∧ fixB cy = true ∧ fixB rx = true ∧ fixB ry = true := by simpa using hf
    have bcx := fixB_iff.1 hfx.1
    have bcy := fixB_iff.1 hfx.2.1
    by_cases hm : 0 ≤ rx ∧ 0 ≤ ry
    · have hmin1 : decide (rx < 0) = false := decide_eq_false (by omega)
      have hmin2 : decide (ry < 0) = false := decide_eq_false (by omega)
      have e : elV cx cy rx ry = (if ptsB (roundsP cx cy rx ry 0 32) = true then roundsP cx cy rx ry 0 32 else [], ptsB (roundsP cx cy rx ry 0 32)) := by
        unfold elV okEl
        rw [hf, decide_eq_true hm.1, decide_eq_true hm.2]
        cases ptsB (roundsP cx cy rx ry 0 32) <;> rfl
      rw [e]
      have HS : Hid _ := fun w => istretch w cx cy rx ry 0 31 (by omega) (by omega) (by omega) (by omega) (by omega) (by omega)
      have HL : Hid ((roundsP cx cy rx ry 0 32).length ≤ 1048576) := by show _ ≤ _; rw [roundsP_len]; omega
      rw [show 31 + 1 - 0 = 32 from rfl] at HS
      clear e hf
      generalize roundsP cx cy rx ry 0 32 = l at *
      have HC : Hid _ := fun (w : World) (B : Nat) (v : Value) (h : OwnP w B v l) => iclosed w B v l HL.out h
      obtain ⟨rl, hrl⟩ : ∃ rl, (if ptsB l = true then l else []) = rl := ⟨_, rfl⟩
      rw [hrl] at HC ⊢
      generalize ptsB l = ok at *
      clear hrl
      by_cases hmn : ry < rx
      all_goals
        go_enter Try.func30, Try.ntmps30
        go_wp2_with fail
        refine Calls.mono (HA.out _ _ (by simp) (by simp) (by simp) (by simp)) ?_
        rintro e w1 ⟨rfl, rfl⟩
        go_wp2_with fail
        refine Calls.mono (HS.out _) ?_
        rintro e w2 ⟨v, rfl, o2, n2⟩
        have O2 : Hid _ := o2
        have N2 : Hid _ := n2
        clear o2 n2
        go_wp2_with fail
        refine Calls.mono (HC.out _ _ v O2.out) ?_
        rintro e w3 ⟨v', rfl, o3, k3⟩
        have N3 : Hid (Nw (w.alloc (.cells #[.slice none 0 0, .bool false] 55)) w3) := Nw.trans (((Kp.refl _).alloc _ _ |>.alloc _ _).nw) (Nw.trans N2.out k3.nw)
        have O3 : Hid (OwnP w3 (w.heap.size + 1) v' rl) := OwnQ.base o3 (by simp)
        obtain ⟨va, vc, hv, _⟩ := o3.pts
        generalize rl.length = vn at hv
        subst hv
        clear o3 k3 N2 O2
        obtain ⟨z0, z1, zf, hz⟩ := nbox2 w w3 N3.out
        go_wp2
        obtain ⟨y0, y1⟩ := set2 w3 w.heap.size (.slice va vn vc) (.bool ok) z0 z1
        have hne : (Value.slice va vn vc).ownBlock ≠ some w.heap.size := fun e => by have := (OwnQ.lt O3.out _ e).1; omega
        refine bodyPost_ret (v := .tuple #[.agg #[.slice va vn vc, .bool ok], .bool ok]) (by simp [results, Try.results30, go_sem, y0, y1]) rfl ⟨_, rfl, ?_, ?_⟩
        · exact OwnQ.base (OwnQ.far (OwnQ.far O3.out _ _ _ hne) _ _ _ hne) (by omega)
        · exact (Below.setCell (nw_box N3.out) (Nat.le_refl _) _).setCell (Nat.le_refl _) _
    · have hmin : (if ry < rx then ry else rx) < 0 := by split <;> omega
      have e : elV cx cy rx ry = ([], false) := by
        unfold elV okEl
        rw [if_neg (fun h => ?_)]
        simp at h; omega
      rw [e]
      clear e hf
      by_cases hmn : ry < rx
      all_goals
        go_enter Try.func30, Try.ntmps30
        go_wp2_with fail
        refine Calls.mono (HA.out _ _ (by simp) (by simp) (by simp) (by simp)) ?_
        rintro e w1 ⟨rfl, rfl⟩
        go_wp2
        refine bodyPost_ret (v := .tuple #[.agg #[.slice none 0 0, .bool false], .bool false]) (by simp [results, Try.results30, go_sem]) rfl ⟨_, rfl, OwnP.nil _ _, ?_⟩
        exact ((Kp.refl w).alloc _ _ |>.alloc _ _).nw
end Go.Proofs.Ytmojppchpeecmaa
