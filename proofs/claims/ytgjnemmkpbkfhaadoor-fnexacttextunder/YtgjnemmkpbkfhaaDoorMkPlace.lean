/-
  Whether a node may stand where it stands: the program's look; each theorem names its conditions.
-/
import Derived.Test.YtgjnemmkpbkfhaaDoorMkWay
import Derived.Test.YtgjnemmkpbkfhaaDoorMkElem
namespace Go.Proofs.YtgjnemmkpbkfhaaDoor
open Go.ChangeShapes Go.WideShapes Go.ChangeAt Go.RowKit
set_option linter.unusedVariables false

def named (l : List ND) (i : Nat) : Bool := !decide ((nodeAt l i).name.size = 0)
/-- The node j + 1 may stand behind the node j. -/
def placeB (l : List ND) (j : Nat) : Bool :=
  meetsN l (upAt l (j + 1)) (j : Int) && (named l (upAt l (j + 1)).toNat && (if named l (j + 1) = true then decide (deepN l (upAt l (j + 1)) < 10) else (named l j || !decide (upAt l j = upAt l (j + 1)))))
/-- The cells of a node. -/
def NodeCells (w : World) (b o : Nat) (n : ND) : Prop :=
  w.cell? ⟨b, o, none⟩ = some (.string n.name) ∧ w.cell? ⟨b, o + 1, none⟩ = some (.int .i64 n.up) ∧ (∃ aa c, w.cell? ⟨b, o + 2, none⟩ = some (.slice aa n.attrs.length c) ∧ n.attrs.length ≤ c ∧ Attrs w aa n.attrs) ∧ w.cell? ⟨b, o + 3, none⟩ = some (.string n.text)

set_option maxHeartbeats 4000000 in
theorem iplace (w : World) (a : Option Addr) (c : Nat) (l : List ND) (j : Nat) (hl : l.length ≤ 1048576) (hr : Nodes w a l) (hu : Ups l (j + 1)) (hj : j + 1 < l.length) :
    Calls Tryd.prog 85 #[.slice a l.length c, .int .i64 ((j : Int) + 1)] w fun e w' => e = .returned (.bool (placeB l j)) ∧ Nw w w' := by
  have HR : Hid (Nodes w a l) := hr
  have HU : Hid (Ups l (j + 1)) := hu
  rcases hr with h | ⟨b, o, rfl, hb, hc⟩
  · rw [h] at hj; simp at hj
  have hle := meetsN_le l (upAt l (j + 1)) (j + 1) hu (by omega) (j + 1) (j : Int) (by omega) (by omega)
  obtain ⟨k0, k1, ⟨ka, kc, k2, kcap, k4⟩, k3⟩ := hc (j + 1) hj
  obtain ⟨j0, j1, ⟨ja, jc, j2, jcap, j4⟩, j3⟩ := hc j (by omega)
  have i1 : decide ((j : Int) + 1 < (l.length : Int)) = true := by simp; omega
  have i2 : (0 : Int) ≤ (j : Int) := by omega
  have i3 : (j : Int) < (l.length : Int) := by omega
  have hw1 : IntKind.i64.wrap ((j : Int) + 1 - 1) = (j : Int) := by rw [show (j : Int) + 1 - 1 = j by omega]; exact IntWalk.i64_in _ ⟨by omega, by omega⟩
  clear hu
  by_cases hm : meetsN l (upAt l (j + 1)) (j : Int) = true
  · obtain ⟨u0, u1⟩ := hle hm
    obtain ⟨u, hu2⟩ := Int.eq_ofNat_of_zero_le u0
    have hul : u < l.length := by omega
    have huj : u < j + 1 := by omega
    have v1 : (0 : Int) ≤ (u : Int) := by omega
    have v2 : (u : Int) < (l.length : Int) := by omega
    obtain ⟨x0, x1, ⟨xa, xc, x2, xcap, x4⟩, x3⟩ := hc u hul
    have HC : Hid (Calls Tryd.prog 136 #[.slice (some ⟨b, o, none⟩) l.length c, .int .i64 (j : Int), .int .i64 (u : Int)] w fun e w' => e = .returned (.bool true) ∧ w' = w) := by
      have := iaround w (some ⟨b, o, none⟩) c l (j + 1) (j : Int) (upAt l (j + 1)) hl HR.out HU.out (by omega) (by omega) (by omega)
      rw [hm, hu2] at this
      exact this
    have hku : (nodeAt l (j + 1)).up = (u : Int) := hu2
    rw [hku] at k1
    have hP : placeB l j = (named l u && (if named l (j + 1) = true then decide (deepN l (u : Int) < 10) else (named l j || !decide (upAt l j = (u : Int))))) := by
      unfold placeB
      rw [hm, hu2]; simp
    have HP : Hid _ := hP
    have hlu : upAt l j = (nodeAt l j).up := rfl
    clear hm hle hc j4 k4 x4 hP hku hu2 u0 u1
    by_cases nu : named l u = true
    · have nu' : (!decide ((nodeAt l u).name.size = 0)) = true := nu
      by_cases nk : named l (j + 1) = true
      · have nk' : (!decide ((nodeAt l (j + 1)).name.size = 0)) = true := nk
        have HF : Hid (placeB l j = decide ((deepN l (u : Int) : Int) < 10)) := by
          show placeB l j = _
          rw [HP.out, nu, if_pos nk, Bool.true_and]
          rw [Bool.eq_iff_iff]; simp; omega
        clear nk nu HP
        go_enter Tryd.func85, Tryd.ntmps85
        go_wp2_with (first
          | (go_at_call 136; refine (HC.out).mono ?_; rintro e w' ⟨rfl, rfl⟩)
          | (go_at_call_of 40 (Value.agg #[.string (nodeAt l u).name, .int .i64 (nodeAt l u).up, .slice xa (nodeAt l u).attrs.length xc, .string (nodeAt l u).text]); refine (iisElem _ _ _ _ _).mono ?_; rw [nu']; rintro e w1 ⟨rfl, n1⟩; obtain ⟨hc1, hf1⟩ := bcell n1)
          | (go_at_call 40; refine (iisElem _ _ _ _ _).mono ?_; rw [nk']; rintro e w2 ⟨rfl, n2⟩; obtain ⟨hc2, hf2⟩ := bcell n2)
          | (go_at_call 137; refine (ideep _ _ c l (j + 1) (u : Int) hl ((HR.out.nw n1).nw n2) HU.out (by omega) (by omega) (by omega)).mono ?_; rintro e w3 ⟨rfl, rfl⟩))
        all_goals
          go_ret
          exact ⟨ret_bool HF.out.symm, n1.trans n2⟩
      · have nk' : (!decide ((nodeAt l (j + 1)).name.size = 0)) = false := (Bool.not_eq_true _).mp nk
        by_cases nj : named l j = true
        · have nj' : (!decide ((nodeAt l j).name.size = 0)) = true := nj
          have HF : Hid (placeB l j = true) := by show placeB l j = true; rw [HP.out, nu, if_neg nk, nj]; rfl
          clear nk nu HP nj
          go_enter Tryd.func85, Tryd.ntmps85
          go_wp2_with fail
          refine Calls.mono HC.out ?_
          rintro e w' ⟨rfl, rfl⟩
          go_wp2_with fail
          refine Calls.mono (iisElem _ _ _ _ _) ?_
          rw [nu']
          rintro e w1 ⟨rfl, n1⟩
          obtain ⟨hc1, hf1⟩ := bcell n1
          go_wp2_with fail
          refine Calls.mono (iisElem _ _ _ _ _) ?_
          rw [nk']
          rintro e w2 ⟨rfl, n2⟩
          obtain ⟨hc2, hf2⟩ := bcell n2
          have hb1 : b < w1.heap.size := Nat.lt_of_lt_of_le hb (Below.size n1)
          go_wp2_with fail
          refine Calls.mono (iisElem _ _ _ _ _) ?_
          rw [nj']
          rintro e w3 ⟨rfl, n3⟩
          go_wp2
          go_ret
          exact ⟨ret_bool HF.out.symm, (n1.trans n2).trans n3⟩
        · have nj' : (!decide ((nodeAt l j).name.size = 0)) = false := (Bool.not_eq_true _).mp nj
          have HF : Hid (placeB l j = ((nodeAt l j).up != (u : Int))) := by
            show placeB l j = _
            rw [HP.out, nu, if_neg nk]
            have : named l j = false := by simpa using nj
            rw [this, hlu, Bool.eq_iff_iff]; simp
          clear nk nu HP nj
          go_enter Tryd.func85, Tryd.ntmps85
          go_wp2_with fail
          refine Calls.mono HC.out ?_
          rintro e w' ⟨rfl, rfl⟩
          go_wp2_with fail
          refine Calls.mono (iisElem _ _ _ _ _) ?_
          rw [nu']
          rintro e w1 ⟨rfl, n1⟩
          obtain ⟨hc1, hf1⟩ := bcell n1
          go_wp2_with fail
          refine Calls.mono (iisElem _ _ _ _ _) ?_
          rw [nk']
          rintro e w2 ⟨rfl, n2⟩
          obtain ⟨hc2, hf2⟩ := bcell n2
          have hb1 : b < w1.heap.size := Nat.lt_of_lt_of_le hb (Below.size n1)
          go_wp2_with fail
          refine Calls.mono (iisElem _ _ _ _ _) ?_
          rw [nj']
          rintro e w3 ⟨rfl, n3⟩
          obtain ⟨hc3, hf3⟩ := bcell n3
          have hb2 : b < w2.heap.size := Nat.lt_of_lt_of_le hb1 (Below.size n2)
          go_wp2
          all_goals
            go_ret
            exact ⟨ret_bool (by rw [HF.out]; try simp_all), (n1.trans n2).trans n3⟩
    · have nu' : (!decide ((nodeAt l u).name.size = 0)) = false := (Bool.not_eq_true _).mp nu
      have HF : Hid (placeB l j = false) := by
        show placeB l j = false
        have : named l u = false := by simpa using nu
        rw [HP.out, this]; rfl
      clear nu HP
      go_enter Tryd.func85, Tryd.ntmps85
      go_wp2_with fail
      refine Calls.mono HC.out ?_
      rintro e w' ⟨rfl, rfl⟩
      go_wp2_with fail
      refine Calls.mono (iisElem _ _ _ _ _) ?_
      rw [nu']
      rintro e w1 ⟨rfl, n1⟩
      go_wp2
      go_ret
      exact ⟨ret_bool HF.out.symm, n1⟩
  · have hm' : meetsN l (upAt l (j + 1)) (j : Int) = false := by simpa using hm
    have HF : Hid (placeB l j = false) := by show placeB l j = false; unfold placeB; rw [hm']; rfl
    have HC : Hid (Calls Tryd.prog 136 #[.slice (some ⟨b, o, none⟩) l.length c, .int .i64 (j : Int), .int .i64 (nodeAt l (j + 1)).up] w fun e w' => e = .returned (.bool false) ∧ w' = w) := by
      have := iaround w (some ⟨b, o, none⟩) c l (j + 1) (j : Int) (upAt l (j + 1)) hl HR.out HU.out (by omega) (by omega) (by omega)
      rw [hm'] at this
      exact this
    clear hm hm' hle hc j4 k4
    generalize (nodeAt l (j + 1)).up = U at *
    go_enter Tryd.func85, Tryd.ntmps85
    go_wp2_with (go_at_call 136; refine (HC.out).mono ?_; rintro e w' ⟨rfl, rfl⟩)
    go_ret
    exact ⟨ret_bool HF.out.symm, Below.refl _ _⟩
end Go.Proofs.YtgjnemmkpbkfhaaDoor
