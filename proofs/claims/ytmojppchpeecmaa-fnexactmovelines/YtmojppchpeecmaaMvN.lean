/-
  MoveLines of the program, whatever comes in; each theorem names its conditions.
-/
import Derived.Test.YtmojppchpeecmaaMvM
namespace Go.Proofs.Ytmojppchpeecmaa
open Go.ChangeShapes Go.WideShapes Go.ChangeAt Go.RowKit
set_option linter.unusedVariables false

def mvAll (A : Aff) (l : List LD) : Bool := A.ok && decide (manyL l ≤ 600) && mvlB A l
def mvR (A : Aff) (l : List LD) : List LD := if mvAll A l = true then l.map (mvLD A) else []
set_option maxRecDepth 100000 in
set_option maxHeartbeats 4000000 in
theorem imove (w : World) (A : Aff) (a : Option Addr) (c : Nat) (l : List LD) (hl : l.length ≤ 1048576) (hm : manyL l ≤ 1048576) (hr : Lines w a l) :
    Calls Try.prog 13 #[A.v, .slice a l.length c] w fun e w' => ∃ v it, e = .returned (.tuple #[v, .bool (mvAll A l)]) ∧ OwnLn w' w.heap.size v it ∧ it.map (·.2) = mvR A l ∧ Nw w w' := by
  obtain ⟨V, hV⟩ : ∃ V, mvAll A l = V := ⟨_, rfl⟩
  obtain ⟨M, hM⟩ : ∃ M, mvR A l = M := ⟨_, rfl⟩
  have HM : Hid ((if V = true then l.map (mvLD A) else []) = M) := by show _ = _; rw [← hM, ← hV]; rfl
  have HV : Hid ((A.ok && decide (manyL l ≤ 600) && mvlB A l) = V) := hV
  rw [hV, hM]
  clear hV hM
  have HG : Hid _ := fun w => igoodAff w A.a A.b A.c A.d A.e A.f
  have HP : Hid (∀ w : World, Lines w a l → _) := fun w h => imany w a c l hl hm h
  have HR : Hid (Lines w a l) := hr
  have e1 : gA A.a A.b A.c A.d A.e A.f = A.ok := rfl
  rw [e1] at HG
  clear e1 hr
  cases hg : A.ok with
  | false =>
    rw [hg] at HG
    have HF : Hid (V = false) := by show _ = _; rw [← HV.out, hg]; rfl
    clear hg
    obtain ⟨a1, b1, c1, d1, e1, f1⟩ := A
    unfold Aff.v
    simp only at HG ⊢
    go_enter Try.func13, Try.ntmps13
    go_wp2_with fail
    refine Calls.mono (HG.out _) ?_
    rintro e w1 ⟨rfl, k1⟩
    have K1 : Hid (Nw w w1) := nw_box k1.nw
    clear k1
    go_wp2
    refine bodyPost_ret (v := .tuple #[.slice none 0 0, .bool false]) (by simp [results, Try.results13, go_sem]) rfl ⟨_, [], by rw [HF.out], OwnLn.nil _ _, ?_, K1.out⟩
    rw [← HM.out, HF.out]; rfl
  | true =>
    rw [hg] at HG
    have HOK : Hid (A.ok = true) := hg
    clear hg
    by_cases h6 : manyL l ≤ 600
    · have hd : decide (600 < (manyL l : Int)) = false := decide_eq_false (by omega)
      have HV2 : Hid (mvlB A l = V) := by show _ = _; rw [← HV.out, HOK.out]; simp [h6]
      have HE : Hid (∀ w : World, Lines w a l → _) := fun w h => ieachL w a c l A HOK.out hl (fun i hi => Nat.le_trans (manyL_at l i hi) h6) h
      rw [HV2.out, HM.out] at HE
      clear HV HV2 HOK
      obtain ⟨a1, b1, c1, d1, e1, f1⟩ := A
      unfold Aff.v at HE ⊢
      simp only at HG HE ⊢
      generalize hmm : manyL l = m at *
      go_enter Try.func13, Try.ntmps13
      go_wp2_with fail
      refine Calls.mono (HG.out _) ?_
      rintro e w1 ⟨rfl, k1⟩
      have bcs : ∀ o, w1.cell? ⟨w.heap.size, o, none⟩ = (#[.int .i64 a1, .int .i64 b1, .int .i64 c1, .int .i64 d1, .int .i64 e1, .int .i64 f1] : Array Value)[o]? := fun o => (k1.cells.1 _ _ (by simp)).trans (World.cell?_alloc_at _ _ _ _ rfl)
      have q0 := bcs 0
      have q1 := bcs 1
      have q2 := bcs 2
      have q3 := bcs 3
      have q4 := bcs 4
      have q5 := bcs 5
      have K1 : Hid (Nw w w1) := nw_box k1.nw
      have hs1 : Hid (w.heap.size < w1.heap.size) := by show _ < _; have := k1.size; simp at this; omega
      clear k1 bcs
      go_wp2_with fail
      refine Calls.mono (HP.out _ (Lines.nw HR.out K1.out)) ?_
      rintro e w2 ⟨rfl, k2⟩
      have p0 := kp_at k2 q0
      have p1 := kp_at k2 q1
      have p2 := kp_at k2 q2
      have p3 := kp_at k2 q3
      have p4 := kp_at k2 q4
      have p5 := kp_at k2 q5
      have K2 : Hid (Nw w w2) := Nw.trans K1.out k2.nw
      clear k2 q0 q1 q2 q3 q4 q5
      go_wp2_with fail
      refine Calls.mono (HE.out _ (Lines.nw HR.out K2.out)) ?_
      rintro e w3 ⟨v, it, rfl, ho, hi, k3⟩
      have HO : Hid (OwnLn w3 w.heap.size v it) := OwnLn.base ho (Below.size K2.out)
      have HI : Hid _ := hi
      have K3 : Hid (Nw w w3) := Nw.trans K2.out k3
      clear ho hi k3
      go_wp2
      exact bodyPost_ret (v := .tuple #[v, .bool V]) (by simp [results, Try.results13, go_sem]) rfl ⟨v, it, rfl, HO.out, HI.out, K3.out⟩
    · have hd : decide (600 < (manyL l : Int)) = true := decide_eq_true (by omega)
      have HF : Hid (V = false) := by show _ = _; rw [← HV.out]; simp [h6]
      obtain ⟨a1, b1, c1, d1, e1, f1⟩ := A
      unfold Aff.v
      simp only at HG ⊢
      generalize hmm : manyL l = m at *
      go_enter Try.func13, Try.ntmps13
      go_wp2_with fail
      refine Calls.mono (HG.out _) ?_
      rintro e w1 ⟨rfl, k1⟩
      have K1 : Hid (Nw w w1) := nw_box k1.nw
      clear k1
      go_wp2_with fail
      refine Calls.mono (HP.out _ (Lines.nw HR.out K1.out)) ?_
      rintro e w2 ⟨rfl, k2⟩
      have K2 : Hid (Nw w w2) := Nw.trans K1.out k2.nw
      clear k2
      go_wp2
      refine bodyPost_ret (v := .tuple #[.slice none 0 0, .bool false]) (by simp [results, Try.results13, go_sem]) rfl ⟨_, [], by rw [HF.out], OwnLn.nil _ _, ?_, K2.out⟩
      rw [← HM.out, HF.out]; rfl
end Go.Proofs.Ytmojppchpeecmaa
