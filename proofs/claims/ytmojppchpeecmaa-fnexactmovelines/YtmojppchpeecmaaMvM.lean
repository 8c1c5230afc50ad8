/-
  MoveLines of the program; each theorem names its conditions.
-/
import Derived.Test.YtmojppchpeecmaaMvL
namespace Go.Proofs.Ytmojppchpeecmaa
open Go.ChangeShapes Go.WideShapes Go.ChangeAt Go.RowKit
set_option linter.unusedVariables false

def mvLD (A : Aff) (x : LD) : LD := ⟨x.pts.map (mvP A), x.closed⟩
def mvlB (A : Aff) (l : List LD) : Bool := l.all fun x => mvsB A x.pts
theorem mapL_step (A : Aff) (l : List LD) (k : Nat) (h : k < l.length) : (l.take (k + 1)).map (mvLD A) = (l.take k).map (mvLD A) ++ [mvLD A (lnAt l k)] := by
  have e : lnAt l k = l[k] := by simp [lnAt, h]
  rw [List.take_succ_eq_append_getElem h, List.map_append, e]
  rfl
set_option maxRecDepth 100000 in
set_option maxHeartbeats 4000000 in
theorem ieachL (w : World) (a : Option Addr) (c : Nat) (l : List LD) (A : Aff) (hg : A.ok = true) (hl : l.length ≤ 1048576) (hm : ∀ i, i < l.length → (lnAt l i).pts.length ≤ 600) (hr : Lines w a l) :
    Calls Try.prog 52 #[.slice a l.length c, .func (.func 53) #[A.v] #[]] w fun e w' => ∃ v it, e = .returned (.tuple #[v, .bool (mvlB A l)]) ∧ OwnLn w' w.heap.size v it ∧ it.map (·.2) = (if mvlB A l = true then l.map (mvLD A) else []) ∧ Nw w w' := by
  obtain ⟨V, hV⟩ : ∃ V, mvlB A l = V := ⟨_, rfl⟩
  have HV : Hid (mvlB A l = V) := hV
  rw [hV]
  obtain ⟨M, hM⟩ : ∃ M, (if V = true then l.map (mvLD A) else []) = M := ⟨_, rfl⟩
  have HM : Hid ((if V = true then l.map (mvLD A) else []) = M) := hM
  rw [hM]
  clear hV hM
  have HC : Hid (∀ (w : World) (pa : Option Addr) (pc : Nat) (ps : List Pnt) (cl : Bool) (hl : ps.length ≤ 600) (hr : Pts w pa ps), _) := fun w pa pc ps cl hl hr => imovedL w A pa pc ps cl hg hl hr
  have HR : Hid (Lines w a l) := hr
  have H6 : Hid (∀ i, i < l.length → (lnAt l i).pts.length ≤ 600) := hm
  obtain ⟨F, hF⟩ : ∃ F, A.v = F := ⟨_, rfl⟩
  rw [hF] at HC ⊢
  clear hg hr hF hm
  go_enter Try.func52, Try.ntmps52
  go_wp2
  go_loopw [13] (fun i wr => ∃ k : Nat, k ≤ l.length ∧ i = .int .i64 (k : Int) ∧ (∀ m, m < k → mvsB A (lnAt l m).pts = true) ∧ (∃ it : Its, LVL w.heap.size wr it ∧ it.map (·.2) = (l.take k).map (mvLD A)) ∧ Nw w wr) (fun i _ => l.length - (intOf i).toNat)
  case atStart => exact ⟨0, Nat.zero_le _, rfl, fun m hm => absurd hm (by omega), ⟨[], LVL.new w 86, rfl⟩, (Below.refl _ _).alloc (Nat.le_refl _) _⟩
  case round =>
    obtain ⟨k, hk, rfl, ha, ⟨it, hlv, hit⟩, hw⟩ := hrel
    have HA : Hid _ := ha
    have HL : Hid (LVL w.heap.size wr it) := hlv
    have HIT : Hid (it.map (·.2) = (l.take k).map (mvLD A)) := hit
    have HW : Hid (Nw w wr) := hw
    clear ha hlv hw hit
    by_cases hlt : k < l.length
    · rcases Lines.nw HR.out HW.out with h | ⟨b, off, rfl, hb, hc⟩
      · rw [h] at hlt; simp at hlt
      obtain ⟨⟨pa, pc, p0, pp⟩, p1⟩ := hc k hlt
      clear hc
      have HE : Hid ((l.take (k + 1)).map (mvLD A) = (l.take k).map (mvLD A) ++ [mvLD A (lnAt l k)]) := mapL_step A l k hlt
      have HLn : Hid (it.length + 1 ≤ 10000000) := by
        show _ ≤ _
        have := congrArg List.length HIT.out
        simp at this
        omega
      have HB : Hid (mvsB A (lnAt l k).pts = false → V = false) := fun h => by
        rw [← HV.out]; exact all_false _ noLD l k hlt h
      have a1 : Nw wr (wr.alloc (.cells #[.slice pa (lnAt l k).pts.length pc, .bool (lnAt l k).closed] 55)) := (Below.refl _ _).alloc (Nat.le_refl _) _
      have hcc := HC.out (wr.alloc (.cells #[.slice pa (lnAt l k).pts.length pc, .bool (lnAt l k).closed] 55)) pa pc (lnAt l k).pts (lnAt l k).closed (H6.out k hlt) (pp.nw a1)
      have HC2 : Hid _ := hcc
      have A1 : Hid _ := a1
      have HQ : Hid (mvLD A (lnAt l k) = ⟨(lnAt l k).pts.map (mvP A), (lnAt l k).closed⟩) := rfl
      clear hcc a1 pp
      obtain ⟨x, hx⟩ : ∃ x, lnAt l k = x := ⟨_, rfl⟩
      have HXX : Hid (lnAt l k = x) := hx
      rw [hx] at HC2 A1 HQ HB p0 p1 HE
      clear hx
      obtain ⟨ps, cl⟩ := x
      simp only at HC2 A1 HQ HB p0 p1
      cases ht : mvsB A ps with
      | false =>
        rw [ht] at HC2
        have HF : Hid (V = false) := HB.out ht
        clear ht
        generalize ps.length = n at *
        go_wp2_with fail
        refine Calls.mono HC2.out ?_
        rintro e w1 ⟨v, rfl, ho, k1⟩
        obtain ⟨va, vn, vc, rfl⟩ := OwnQ.slice ho
        have N1 : Hid (Nw w w1) := Nw.trans HW.out (Nw.trans A1.out k1)
        clear k1 ho
        go_wp2
        refine bodyPost_ret (v := .tuple #[.slice none 0 0, .bool false]) (by simp [results, Try.results52, go_sem]) rfl ⟨_, [], by rw [HF.out], OwnLn.nil _ _, ?_, ?_⟩
        · rw [← HM.out, HF.out]; rfl
        · exact Below.alloc N1.out (Below.size N1.out) _
      | true =>
        rw [ht, if_pos rfl] at HC2
        have HT : Hid (mvsB A ps = true) := ht
        clear ht
        obtain ⟨n, hn⟩ : ∃ n, ps.length = n := ⟨_, rfl⟩
        rw [hn] at HC2 p0 A1
        clear hn
        go_wp2_with fail
        refine Calls.mono HC2.out ?_
        rintro e w1 ⟨v, rfl, ho, k1⟩
        obtain ⟨va, vn, vc, rfl⟩ := OwnQ.slice ho
        have n1 : Nw wr w1 := Nw.trans A1.out k1
        have n2 : Nw w1 (w1.alloc (.cells #[.slice va vn vc, .bool cl] 55)) := (Below.refl _ _).alloc (Nat.le_refl _) _
        have had := iaddL wr (w1.alloc (.cells #[.slice va vn vc, .bool cl] 55)) w.heap.size it (.slice va vn vc) ⟨ps.map (mvP A), cl⟩ 55 HL.out (Nw.trans n1 n2) (OwnQ.base (OwnQ.nw ho n2) (Below.size A1.out)) HLn.out
        rw [World.size_alloc] at had
        simp only at had
        have HAD : Hid _ := had
        clear had n1 n2 k1 ho
        go_wp2_with fail
        refine Calls.mono HAD.out ?_
        rintro e w2 ⟨rfl, l2, k2⟩
        have L2 : Hid (LVL w.heap.size w2 (it ++ [(.slice va vn vc, ⟨ps.map (mvP A), cl⟩)])) := l2
        have N2 : Hid (Nw w w2) := Below.trans HW.out k2
        clear l2 k2
        go_wp2
        go_roundw
        case rel =>
          refine ⟨k + 1, by omega, by go_num, fun m hm => ?_, ⟨_, L2.out, ?_⟩, N2.out⟩
          · rcases Nat.lt_succ_iff_lt_or_eq.1 hm with h | h
            · exact HA.out m h
            · rw [h, HXX.out]; exact HT.out
          · rw [HE.out, List.map_append, HIT.out, HQ.out]; rfl
        case measure => simp [intOf]; omega
    · have HT : Hid (V = true) := by
        show _ = _
        rw [← HV.out]; exact all_true _ noLD l (fun m hm => HA.out m (by omega))
      have hk2 : k = l.length := by omega
      subst hk2
      rw [List.take_length] at HIT
      obtain ⟨v, hv, _, hown⟩ := HL.out
      obtain ⟨va, vn, vc, rfl⟩ := OwnQ.slice hown.own
      have HO : Hid _ := OwnLn.base hown (Nat.le_succ _)
      clear hown
      go_wp2
      refine bodyPost_ret (v := .tuple #[.slice va vn vc, .bool true]) (by simp [results, Try.results52, go_sem]) rfl ⟨_, it, by rw [HT.out], HO.out, ?_, HW.out⟩
      rw [← HM.out, HT.out]; exact HIT.out
end Go.Proofs.Ytmojppchpeecmaa
