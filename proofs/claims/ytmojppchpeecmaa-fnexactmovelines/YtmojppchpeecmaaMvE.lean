/-
  Points moved by the program, one behind the other; each theorem names its conditions.
-/
import Derived.Test.YtmojppchpeecmaaMvI
import Derived.Test.YtmojppchpeecmaaPls
namespace Go.Proofs.Ytmojppchpeecmaa
open Go.ChangeShapes Go.WideShapes Go.ChangeAt Go.RowKit
set_option linter.unusedVariables false

def mvB (A : Aff) (p : Pnt) : Bool := ptB p && ptB (mvP A p)
def mvsB (A : Aff) (l : List Pnt) : Bool := l.all (mvB A)
theorem map_step (A : Aff) (l : List Pnt) (k : Nat) (h : k < l.length) : (l.take (k + 1)).map (mvP A) = (l.take k).map (mvP A) ++ [mvP A (ptAt l k)] := by
  have e : ptAt l k = l[k] := by simp [ptAt, h]
  rw [List.take_succ_eq_append_getElem h, List.map_append, e]
  rfl
set_option maxRecDepth 100000 in
set_option maxHeartbeats 4000000 in
theorem ieachP (w : World) (a : Option Addr) (c : Nat) (l : List Pnt) (A : Aff) (hg : A.ok = true) (hl : l.length ≤ 600) (hr : Pts w a l) :
    Calls Try.prog 87 #[.slice a l.length c, .func (.func 88) #[A.v] #[]] w fun e w' => ∃ v, e = .returned (.tuple #[v, .bool (mvsB A l)]) ∧ OwnP w' w.heap.size v (if mvsB A l = true then l.map (mvP A) else []) ∧ Nw w w' := by
  obtain ⟨V, hV⟩ : ∃ V, mvsB A l = V := ⟨_, rfl⟩
  have HV : Hid (mvsB A l = V) := hV
  rw [hV]
  obtain ⟨M, hM⟩ : ∃ M, (if V = true then l.map (mvP A) else []) = M := ⟨_, rfl⟩
  have HM : Hid ((if V = true then l.map (mvP A) else []) = M) := hM
  rw [hM]
  clear hV hM
  have HC : Hid _ := fun w x y => imovedP w A x y hg
  have HR : Hid (Pts w a l) := hr
  obtain ⟨F, hF⟩ : ∃ F, A.v = F := ⟨_, rfl⟩
  rw [hF] at HC ⊢
  clear hg hr hF
  go_enter Try.func87, Try.ntmps87
  go_wp2
  go_loopw [13] (fun i wr => ∃ k : Nat, k ≤ l.length ∧ i = .int .i64 (k : Int) ∧ (∀ m, m < k → mvB A (ptAt l m) = true) ∧ LV w.heap.size wr ((l.take k).map (mvP A)) ∧ Nw w wr) (fun i _ => l.length - (intOf i).toNat)
  case atStart => exact ⟨0, Nat.zero_le _, rfl, fun m hm => absurd hm (by omega), by simpa using LV.new w 100, (Below.refl _ _).alloc (Nat.le_refl _) _⟩
  case round =>
    obtain ⟨k, hk, rfl, ha, hlv, hw⟩ := hrel
    have HA : Hid _ := ha
    have HL : Hid (LV w.heap.size wr ((l.take k).map (mvP A))) := hlv
    have HW : Hid (Nw w wr) := hw
    clear ha hlv hw
    by_cases hlt : k < l.length
    · rcases Pts.nw HR.out HW.out with h | ⟨b, off, rfl, hb, hc⟩
      · rw [h] at hlt; simp at hlt
      obtain ⟨p0, p1⟩ := hc k hlt
      clear hc
      have HE : Hid ((l.take (k + 1)).map (mvP A) = (l.take k).map (mvP A) ++ [mvP A (ptAt l k)]) := map_step A l k hlt
      have HLn : Hid (((l.take k).map (mvP A)).length + 1 ≤ 1000000) := by show _ ≤ _; simp; omega
      have HB : Hid (mvB A (ptAt l k) = false → V = false) := fun h => by
        rw [← HV.out]; exact all_false _ (0, 0) l k hlt h
      have HD : Hid (∀ t : Bool, mvB A (ptAt l k) = t → mvB A (ptAt l k) = t) := fun t h => h
      have HC2 : Hid _ := fun w => HC.out w (ptAt l k).1 (ptAt l k).2
      have e1 : (ptB ((ptAt l k).1, (ptAt l k).2) && ptB (mvP A ((ptAt l k).1, (ptAt l k).2))) = mvB A (ptAt l k) := rfl
      rw [e1] at HC2
      have e2 : mvP A ((ptAt l k).1, (ptAt l k).2) = mvP A (ptAt l k) := rfl
      rw [e2] at HC2
      clear e1 e2
      generalize (l.take k).map (mvP A) = lk at *
      generalize mvP A (ptAt l k) = q at *
      obtain ⟨qx, qy⟩ := q
      generalize (ptAt l k).1 = x at *
      generalize (ptAt l k).2 = y at *
      cases ht : mvB A (ptAt l k) with
      | false =>
        rw [ht] at HC2
        have HF : Hid (V = false) := HB.out ht
        clear ht
        go_wp2_with fail
        refine Calls.mono (HC2.out _) ?_
        rintro e w1 ⟨rfl, k1⟩
        have N1 : Hid (Nw wr w1) := (kp_box k1).nw
        clear k1
        go_wp2
        refine bodyPost_ret (v := .tuple #[.slice none 0 0, .bool false]) (by simp [results, Try.results87, go_sem]) rfl ⟨_, by rw [HF.out], ?_, ?_⟩
        · rw [← HM.out, HF.out]; exact OwnP.nil _ _
        · exact Below.alloc (Nw.trans HW.out N1.out) (Below.size (Nw.trans HW.out N1.out)) _
      | true =>
        rw [ht] at HC2
        have HT : Hid (mvB A (ptAt l k) = true) := ht
        clear ht
        go_wp2_with fail
        refine Calls.mono (HC2.out _) ?_
        rintro e w1 ⟨rfl, k1⟩
        have N1 : Hid (Nw wr w1) := (kp_box k1).nw
        clear k1
        have L1 : Hid (LV w.heap.size (w1.alloc (.cells #[.int .i64 qx, .int .i64 qy] 27)) lk) := LV.nw HL.out (Nw.trans N1.out ((Below.refl _ _).alloc (Nat.le_refl _) _))
        have had := iadd_one (w1.alloc (.cells #[.int .i64 qx, .int .i64 qy] 27)) w.heap.size lk qx qy 27 L1.out HLn.out
        rw [World.size_alloc] at had
        have HAD : Hid _ := had
        clear had
        go_wp2_with fail
        refine Calls.mono HAD.out ?_
        rintro e w2 ⟨rfl, l2, k2⟩
        have L2 : Hid _ := l2
        have n1 : Nw w w1 := Nw.trans HW.out N1.out
        have N2 : Hid (Nw w w2) := Below.trans (Below.alloc n1 (Below.size n1) _) k2
        clear l2 k2
        go_wp2
        go_roundw
        case rel =>
          refine ⟨k + 1, by omega, by go_num, fun m hm => ?_, by rw [HE.out]; exact L2.out, N2.out⟩
          rcases Nat.lt_succ_iff_lt_or_eq.1 hm with h | h
          · exact HA.out m h
          · rw [h]; exact HT.out
        case measure => simp [intOf]; omega
    · have HT : Hid (V = true) := by
        show _ = _
        rw [← HV.out]; exact all_true _ (0, 0) l (fun m hm => HA.out m (by omega))
      have hk2 : k = l.length := by omega
      subst hk2
      rw [List.take_length] at HL
      obtain ⟨va, vc, hv, hown⟩ := LV.val HL.out
      have HO : Hid _ := OwnQ.base hown (Nat.le_succ _)
      have hm : l.map (mvP A) = M := by rw [← HM.out, HT.out]; rfl
      have HMM : Hid _ := hm
      generalize (l.map (mvP A)).length = n at *
      clear hown hm
      go_wp2
      refine bodyPost_ret (v := .tuple #[.slice va n vc, .bool true]) (by simp [results, Try.results87, go_sem]) rfl ⟨_, by rw [HT.out], ?_, HW.out⟩
      rw [← HMM.out]; exact HO.out
end Go.Proofs.Ytmojppchpeecmaa
