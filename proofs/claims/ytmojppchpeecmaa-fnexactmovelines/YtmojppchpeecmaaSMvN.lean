/-
  MoveLines of the specification, whatever comes in; each theorem names its conditions.
-/
import Derived.Test.YtmojppchpeecmaaSMv
namespace Go.Proofs.Ytmojppchpeecmaa
open Go.ChangeShapes Go.WideShapes Go.ChangeAt Go.RowKit
set_option linter.unusedVariables false

theorem mvsB_eq (A : Aff) (ps : List Pnt) : mvsB A ps = (ptsB ps && ptsB (ps.map (mvP A))) := by
  unfold mvsB ptsB
  induction ps with
  | nil => rfl
  | cons p ps ih =>
    simp only [List.all_cons, List.map_cons, ih, mvB]
    cases ptB p <;> cases ptB (mvP A p) <;> cases ps.all ptB <;> simp
theorem mvlB_eq (A : Aff) (l : List LD) : mvlB A l = (fixL l && fixL (l.map (mvLD A))) := by
  unfold mvlB fixL
  induction l with
  | nil => rfl
  | cons x l ih =>
    simp only [List.all_cons, List.map_cons, ih]
    rw [mvsB_eq]
    have e : (mvLD A x).pts = x.pts.map (mvP A) := rfl
    rw [e]
    generalize (l.all fun x => ptsB x.pts) = u
    generalize ((l.map (mvLD A)).all fun x => ptsB x.pts) = v
    cases ptsB x.pts <;> cases ptsB (x.pts.map (mvP A)) <;> cases u <;> cases v <;> rfl
theorem manyL_map (A : Aff) (l : List LD) : manyL (l.map (mvLD A)) = manyL l := by
  unfold manyL
  induction l with
  | nil => rfl
  | cons x l ih => simp only [List.map_cons, List.sum_cons, ih, mvLD, List.length_map]
theorem good_mv {A : Aff} (hok : A.ok = true) (l : List LD) : (goodL l && goodL (l.map (mvLD A))) = mvAll A l := by
  unfold goodL mvAll
  rw [manyL_map, mvlB_eq, hok]
  cases fixL l <;> cases fixL (l.map (mvLD A)) <;> cases decide (manyL l ≤ 600) <;> rfl
set_option maxRecDepth 100000 in
set_option maxHeartbeats 4000000 in
theorem smove (w : World) (A : Aff) (a : Option Addr) (c : Nat) (l : List LD) (hl : l.length ≤ 1048576) (hm : manyL l ≤ 1048576) (hr : Lines w a l) :
    Calls Try.prog 14 #[A.v, .slice a l.length c] w fun e w' => ∃ v it, e = .returned (.tuple #[v, .bool (mvAll A l)]) ∧ OwnLn w' w.heap.size v it ∧ it.map (·.2) = mvR A l ∧ Nw w w' := by
  obtain ⟨V, hV⟩ : ∃ V, mvAll A l = V := ⟨_, rfl⟩
  obtain ⟨M, hM⟩ : ∃ M, mvR A l = M := ⟨_, rfl⟩
  have HM : Hid ((if V = true then l.map (mvLD A) else []) = M) := by show _ = _; rw [← hM, ← hV]; rfl
  have HV : Hid (mvAll A l = V) := hV
  rw [hV, hM]
  clear hV hM
  have HG : Hid _ := fun w => sgoodAff w A.a A.b A.c A.d A.e A.f
  have HP : Hid (∀ w : World, Lines w a l → _) := fun w h => sgoodL w a c l hl hm h
  have HR : Hid (Lines w a l) := hr
  have e1 : gA A.a A.b A.c A.d A.e A.f = A.ok := rfl
  rw [e1] at HG
  clear e1 hr
  cases hg : A.ok with
  | false =>
    rw [hg] at HG
    have HF : Hid (V = false) := by show _ = _; rw [← HV.out]; unfold mvAll; rw [hg]; rfl
    clear hg
    obtain ⟨a1, b1, c1, d1, e1, f1⟩ := A
    unfold Aff.v
    simp only at HG ⊢
    go_enter Try.func14, Try.ntmps14
    go_wp2_with fail
    refine Calls.mono (HG.out _) ?_
    rintro e w1 ⟨rfl, k1⟩
    have K1 : Hid (Nw w w1) := nw_box k1.nw
    clear k1
    go_wp2
    refine bodyPost_ret (v := .tuple #[.slice none 0 0, .bool false]) (by simp [results, Try.results14, go_sem]) rfl ⟨_, [], by rw [HF.out], OwnLn.nil _ _, ?_, K1.out⟩
    rw [← HM.out, HF.out]; rfl
  | true =>
    rw [hg] at HG
    have HOK : Hid (A.ok = true) := hg
    clear hg
    have HVV : Hid ((goodL l && goodL (l.map (mvLD A))) = V) := by show _ = _; rw [good_mv HOK.out, HV.out]
    cases h6 : goodL l with
    | true =>
      rw [h6] at HP
      have h600 : manyL l ≤ 600 := by
        unfold goodL at h6
        rw [Bool.and_eq_true, decide_eq_true_eq] at h6
        exact h6.2
      have HV2 : Hid (goodL (l.map (mvLD A)) = V) := by show _ = _; rw [← HVV.out, h6]; rfl
      have HE : Hid (∀ w : World, Lines w a l → _) := fun w h => sl9move w A a c l HOK.out hl (fun i hi => Nat.le_trans (manyL_at l i hi) h600) h
      have HP2 : Hid (∀ (w : World) (a : Option Addr) (c : Nat), Lines w a (l.map (mvLD A)) → _) := fun w a c h => sgoodL w a c (l.map (mvLD A)) (by rw [List.length_map]; exact hl) (by rw [manyL_map]; exact hm) h
      rw [HV2.out] at HP2
      clear HV HV2 HOK HVV h6 h600
      obtain ⟨N, hN⟩ : ∃ N, l.map (mvLD A) = N := ⟨_, rfl⟩
      rw [hN] at HM HE HP2
      clear hN
      obtain ⟨a1, b1, c1, d1, e1, f1⟩ := A
      unfold Aff.v at HE ⊢
      simp only at HG HE ⊢
      go_enter Try.func14, Try.ntmps14
      go_wp2_with fail
      refine Calls.mono (HG.out _) ?_
      rintro e w1 ⟨rfl, k1⟩
      have bcs : ∀ o, w1.cell? ⟨w.heap.size, o, none⟩ = (#[.int .i64 a1, .int .i64 b1, .int .i64 c1, .int .i64 d1, .int .i64 e1, .int .i64 f1] : Array Value)[o]? := fun o => (k1.cells.1 _ _ (by simp)).trans (World.cell?_alloc_at _ _ _ _ rfl)
      have q0 := bcs 0
      have q1 := bcs 1
      have q2 := bcs 2
      have q3 := bcs 3
      have q4 := bcs 4
      have q5 := bcs 5
      have K1 : Hid (Nw w w1) := nw_box k1.nw
      clear k1 bcs
      go_wp2_with fail
      refine Calls.mono (HP.out _ (Lines.nw HR.out K1.out)) ?_
      rintro e w2 ⟨rfl, k2⟩
      have p0 := kp_at k2 q0
      have p1 := kp_at k2 q1
      have p2 := kp_at k2 q2
      have p3 := kp_at k2 q3
      have p4 := kp_at k2 q4
      have p5 := kp_at k2 q5
      have K2 : Hid (Nw w w2) := Nw.trans K1.out k2.nw
      clear k2 q0 q1 q2 q3 q4 q5
      go_wp2_with fail
      refine Calls.mono (HE.out _ (Lines.nw HR.out K2.out)) ?_
      rintro e w3 ⟨v, it, rfl, ho, hi, k3⟩
      have K3 : Hid (Nw w w3) := Nw.trans K2.out k3
      have hrow := ho.row
      rw [hi] at hrow
      obtain ⟨va, vc, rfl, hln⟩ := hrow
      have HO : Hid (OwnLn w3 w.heap.size (.slice va N.length vc) it) := OwnLn.base ho (Below.size K2.out)
      have HI : Hid (it.map (·.2) = N) := hi
      have HLN : Hid (Lines w3 va N) := hln
      clear ho hi k3 hln p0 p1 p2 p3 p4 p5
      cases V with
      | false =>
        go_wp2_with fail
        refine Calls.mono (HP2.out _ _ _ HLN.out) ?_
        rintro e w4 ⟨rfl, k4⟩
        have K4 : Hid (Nw w w4) := Nw.trans K3.out k4.nw
        clear k4
        go_wp2
        refine bodyPost_ret (v := .tuple #[.slice none 0 0, .bool false]) (by simp [results, Try.results14, go_sem]) rfl ⟨_, [], rfl, OwnLn.nil _ _, ?_, K4.out⟩
        rw [← HM.out]; rfl
      | true =>
        go_wp2_with fail
        refine Calls.mono (HP2.out _ _ _ HLN.out) ?_
        rintro e w4 ⟨rfl, k4⟩
        have K4 : Hid (Nw w w4) := Nw.trans K3.out k4.nw
        have O4 : Hid (OwnLn w4 w.heap.size (.slice va N.length vc) it) := OwnLn.nw HO.out k4.nw
        clear k4
        go_wp2
        refine bodyPost_ret (v := .tuple #[.slice va N.length vc, .bool true]) (by simp [results, Try.results14, go_sem]) rfl ⟨_, it, rfl, O4.out, ?_, K4.out⟩
        rw [← HM.out]; exact HI.out
    | false =>
      rw [h6] at HP
      have HF : Hid (V = false) := by show _ = _; rw [← HVV.out, h6]; rfl
      obtain ⟨a1, b1, c1, d1, e1, f1⟩ := A
      unfold Aff.v
      simp only at HG ⊢
      go_enter Try.func14, Try.ntmps14
      go_wp2_with fail
      refine Calls.mono (HG.out _) ?_
      rintro e w1 ⟨rfl, k1⟩
      have K1 : Hid (Nw w w1) := nw_box k1.nw
      clear k1
      go_wp2_with fail
      refine Calls.mono (HP.out _ (Lines.nw HR.out K1.out)) ?_
      rintro e w2 ⟨rfl, k2⟩
      have K2 : Hid (Nw w w2) := Nw.trans K1.out k2.nw
      clear k2
      go_wp2
      refine bodyPost_ret (v := .tuple #[.slice none 0 0, .bool false]) (by simp [results, Try.results14, go_sem]) rfl ⟨_, [], by rw [HF.out], OwnLn.nil _ _, ?_, K2.out⟩
      rw [← HM.out, HF.out]; rfl
end Go.Proofs.Ytmojppchpeecmaa
