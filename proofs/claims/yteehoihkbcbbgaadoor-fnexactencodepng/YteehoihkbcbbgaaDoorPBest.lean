/-
  What PackBest answers, of the program and of the specification; each theorem names its conditions.
-/
import Derived.Test.YteehoihkbcbbgaaDoorSStored
import Derived.Test.YteehoihkbcbbgaaDoorSFix
namespace Go.Proofs.YteehoihkbcbbgaaDoor
open Go.ChangeShapes Go.WideShapes Go.ChangeAt Go.RowKit
set_option linter.unusedVariables false
/-- What a call that answers a list of bytes and true leaves. -/
def Made (W w' : World) (g : Nat) (cs : List Int) : Prop := Nw W w' ∧ W.heap.size ≤ g ∧ At w' g cs

theorem nats_of (zs : List Int) (h : ∀ z ∈ zs, 0 ≤ z ∧ z ≤ 255) : ∃ ds : List Nat, zs = ints ds ∧ ∀ d ∈ ds, d < 256 := by
  refine ⟨zs.map Int.toNat, ?_, ?_⟩
  · unfold ints
    rw [List.map_map]
    conv => lhs; rw [← List.map_id zs]
    apply List.map_congr_left
    intro z hz
    have := h z hz
    simp; omega
  · intro d hd
    obtain ⟨z, hz, rfl⟩ := List.mem_map.1 hd
    have := h z hz
    omega
theorem stored_len (ds : List Nat) : (stored ds).length = ds.length + 5 := by simp [stored]
theorem cells_nat {W : World} {b : Nat} {ds : List Nat} (h : At W b (ints ds)) : ∀ i, i < ds.length → W.cell? ⟨b, 0 + i, none⟩ = some (.int .u8 ((ds.getD i 0 : Nat) : Int)) := by
  intro i hi
  have := h.2.1 i (by rw [ints_len]; exact hi)
  rwa [ints_get] at this
theorem ints_bd (ds : List Nat) (h8 : ∀ d ∈ ds, d < 256) : ∀ i, i < (ints ds).length → 0 ≤ (ints ds).getD i 0 ∧ (ints ds).getD i 0 ≤ 255 := by
  intro i hi
  rw [ints_len] at hi
  rw [ints_get]
  have e : ds.getD i 0 = ds[i] := by simp [hi]
  have := h8 ds[i] (List.getElem_mem _)
  rw [e]; omega
/-- The shorter one, the stored one where both are as long. -/
def bestL (ds : List Nat) (J : Nat) : List Nat := if (outB (ints ds) J).length < ds.length + 5 then outB (ints ds) J else stored ds

set_option maxHeartbeats 2000000 in
theorem ibest (W : World) (b cap : Nat) (ds : List Nat) (J : Nat) (hJ : Ends (ints ds) J) (ht : Tabs W) (hl : ds.length ≤ 6000) (h8 : ∀ d ∈ ds, d < 256) (ha : At W b (ints ds)) :
    Calls Tryd.prog 7 #[.slice (some ⟨b, 0, none⟩) ds.length cap] W fun e w' => ∃ g c, e = .returned (.tuple #[.slice (some ⟨g, 0, none⟩) (bestL ds J).length c, .bool true]) ∧ Made W w' g (ints (bestL ds J)) := by
  have H1 : Hid _ := istored W b cap ds hl h8 ha.1 (cells_nat ha)
  have h4 : 4 ≤ W.heap.size := ht.2.2.2.2
  have H2 : Hid (∀ w1, Below W.heap.size W w1 → Calls Tryd.prog 10 #[.slice (some ⟨b, 0, none⟩) ds.length cap] w1 fun e w' => ∃ g c, e = .returned (.tuple #[.slice (some ⟨g, 0, none⟩) (outB (ints ds) J).length c, .bool true]) ∧ Gave w1 w' g (outB (ints ds) J) c) := by
    intro w1 hb
    have hA := At.nw ha hb
    have h := ifix w1 b cap (ints ds) J hJ (ht.below hb h4) (by rw [ints_len]; exact hl) (ints_bd ds h8) hA.1 hA.2.1
    rw [ints_len] at h
    exact h
  have hsl := stored_len ds
  have hpos := outB_pos (ints ds) J
  unfold bestL
  clear hJ ht h8 ha
  by_cases hlt : (outB (ints ds) J).length < ds.length + 5
  · rw [if_pos hlt]
    have d1 : decide (((outB (ints ds) J).length : Int) < ((stored ds).length : Int)) = true := by simp; omega
    have d2 : decide ((outB (ints ds) J).length < (stored ds).length) = true := by simp; omega
    generalize outB (ints ds) J = O at *
    generalize stored ds = T at *
    clear hlt hsl
    go_enter Tryd.func7, Tryd.ntmps7
    go_wp2_with fail
    refine Calls.mono H1.out ?_
    rintro e w1 ⟨g1, c1, rfl, hg⟩
    have HB : Hid (Below W.heap.size W w1) := hg.1
    clear hg
    go_wp2_with fail
    refine Calls.mono (H2.out w1 HB.out) ?_
    rintro e w2 ⟨g2, c2, rfl, hg⟩
    have HM : Hid (Made W w2 g2 (ints O)) := ⟨Nw.trans HB.out hg.1, Nat.le_trans (Below.size HB.out) hg.2.1, At.gave hg⟩
    clear hg
    go_wp2
    go_ret2
    exact ⟨_, _, rfl, HM.out⟩
  · rw [if_neg hlt]
    have d1 : decide (((outB (ints ds) J).length : Int) < ((stored ds).length : Int)) = false := by simp; omega
    have d2 : decide ((outB (ints ds) J).length < (stored ds).length) = false := by simp; omega
    generalize outB (ints ds) J = O at *
    generalize stored ds = T at *
    clear hlt hsl
    go_enter Tryd.func7, Tryd.ntmps7
    go_wp2_with fail
    refine Calls.mono H1.out ?_
    rintro e w1 ⟨g1, c1, rfl, hg⟩
    have HB : Hid (Below W.heap.size W w1) := hg.1
    have HA : Hid (At w1 g1 (ints T)) := At.gave hg
    have HZ : Hid (W.heap.size ≤ g1) := hg.2.1
    clear hg
    go_wp2_with fail
    refine Calls.mono (H2.out w1 HB.out) ?_
    rintro e w2 ⟨g2, c2, rfl, hg⟩
    have HM : Hid (Made W w2 g1 (ints T)) := ⟨Nw.trans HB.out hg.1, HZ.out, At.nw HA.out hg.1⟩
    clear hg
    go_wp2
    go_ret2
    exact ⟨_, _, rfl, HM.out⟩

set_option maxHeartbeats 2000000 in
theorem sl2best (W : World) (b cap : Nat) (ds : List Nat) (J : Nat) (hJ : Ends (ints ds) J) (hl : ds.length ≤ 6000) (h8 : ∀ d ∈ ds, d < 256) (ha : At W b (ints ds)) :
    Calls Tryd.prog 21 #[.slice (some ⟨b, 0, none⟩) ds.length cap] W fun e w' => ∃ g c, e = .returned (.slice (some ⟨g, 0, none⟩) (bestL ds J).length c) ∧ Made W w' g (ints (bestL ds J)) := by
  have H1 : Hid (Calls Tryd.prog 52 #[.slice (some ⟨b, 0, none⟩) ds.length cap] W fun e w' => ∃ g c, e = .returned (.slice (some ⟨g, 0, none⟩) (outB (ints ds) J).length c) ∧ Gave W w' g (outB (ints ds) J) c) := by
    have h := sfix W b cap (ints ds) J hJ (by rw [ints_len]; exact hl) (ints_bd ds h8) ha.1 ha.2.1
    rw [ints_len] at h
    exact h
  have H2 : Hid (∀ w1, Below W.heap.size W w1 → Calls Tryd.prog 53 #[.slice (some ⟨b, 0, none⟩) ds.length cap] w1 fun e w' => ∃ g c, e = .returned (.slice (some ⟨g, 0, none⟩) (stored ds).length c) ∧ Gave w1 w' g (stored ds) c) := by
    intro w1 hb
    have hA := At.nw ha hb
    exact sl2stored w1 b cap ds hl hA.1 (cells_nat hA)
  have hol := hJ.1
  unfold bestL
  have hw := IntWalk.i64_in ((ds.length : Int) + 5) (by omega)
  clear hJ h8 ha hol
  by_cases hlt : (outB (ints ds) J).length < ds.length + 5
  · rw [if_pos hlt]
    have d1 : decide (((outB (ints ds) J).length : Int) < (ds.length : Int) + 5) = true := by simp; omega
    generalize outB (ints ds) J = O at *
    clear hlt H2
    go_enter Tryd.func21, Tryd.ntmps21
    go_wp2_with fail
    refine Calls.mono H1.out ?_
    rintro e w1 ⟨g1, c1, rfl, hg⟩
    have HM : Hid (Made W w1 g1 (ints O)) := ⟨hg.1, hg.2.1, At.gave hg⟩
    clear hg
    go_wp2
    go_ret
    exact ⟨_, _, rfl, HM.out⟩
  · rw [if_neg hlt]
    have d1 : decide (((outB (ints ds) J).length : Int) < (ds.length : Int) + 5) = false := by simp; omega
    generalize outB (ints ds) J = O at *
    generalize stored ds = T at *
    clear hlt
    go_enter Tryd.func21, Tryd.ntmps21
    go_wp2_with fail
    refine Calls.mono H1.out ?_
    rintro e w1 ⟨g1, c1, rfl, hg⟩
    have HB : Hid (Below W.heap.size W w1) := hg.1
    clear hg
    go_wp2_with fail
    refine Calls.mono (H2.out w1 HB.out) ?_
    rintro e w2 ⟨g2, c2, rfl, hg⟩
    have HM : Hid (Made W w2 g2 (ints T)) := ⟨Nw.trans HB.out hg.1, Nat.le_trans (Below.size HB.out) hg.2.1, At.gave hg⟩
    clear hg
    go_wp2
    go_ret
    exact ⟨_, _, rfl, HM.out⟩

set_option maxHeartbeats 1000000 in
theorem sbest (W : World) (b cap : Nat) (ds : List Nat) (J : Nat) (hJ : Ends (ints ds) J) (hl : ds.length ≤ 6000) (h8 : ∀ d ∈ ds, d < 256) (ha : At W b (ints ds)) :
    Calls Tryd.prog 8 #[.slice (some ⟨b, 0, none⟩) ds.length cap] W fun e w' => ∃ g c, e = .returned (.tuple #[.slice (some ⟨g, 0, none⟩) (bestL ds J).length c, .bool true]) ∧ Made W w' g (ints (bestL ds J)) := by
  have hd1 : decide ((6000 : Int) < (ds.length : Int)) = false := by simp; omega
  have HC : Hid _ := sl2best W b cap ds J hJ hl h8 ha
  clear hJ h8 ha
  go_enter Tryd.func8, Tryd.ntmps8
  go_wp2_with fail
  refine Calls.mono HC.out ?_
  rintro e w1 ⟨g, c, rfl, hg⟩
  have HG : Hid (Made W w1 g (ints (bestL ds J))) := hg
  clear hg
  go_wp2
  go_ret2
  exact ⟨_, _, rfl, HG.out⟩
theorem sbest_no (W : World) (a : Option Addr) (n cap : Nat) (hl : 6000 < n) (hl2 : n ≤ 1048576) :
    Calls Tryd.prog 8 #[.slice a n cap] W fun e w' => e = .returned (.tuple #[.slice none 0 0, .bool false]) ∧ w' = W := by
  have hd1 : decide ((6000 : Int) < (n : Int)) = true := by simp; omega
  go_enter Tryd.func8, Tryd.ntmps8
  go_wp2
  go_ret2
  exact ⟨rfl, rfl⟩
theorem istored_no (W : World) (a : Option Addr) (n cap : Nat) (hl : 6000 < n) (hl2 : n ≤ 1048576) :
    Calls Tryd.prog 9 #[.slice a n cap] W fun e w' => e = .returned (.tuple #[.slice none 0 0, .bool false]) ∧ w' = W := by
  have hd1 : decide ((6000 : Int) < (n : Int)) = true := by simp; omega
  go_enter Tryd.func9, Tryd.ntmps9
  go_wp2
  go_ret2
  exact ⟨rfl, rfl⟩
theorem ibest_no (W : World) (a : Option Addr) (n cap : Nat) (hl : 6000 < n) (hl2 : n ≤ 1048576) :
    Calls Tryd.prog 7 #[.slice a n cap] W fun e w' => e = .returned (.tuple #[.slice none 0 0, .bool false]) ∧ w' = W := by
  have HC : Hid _ := istored_no W a n cap hl hl2
  go_enter Tryd.func7, Tryd.ntmps7
  go_wp2_with fail
  refine Calls.mono HC.out ?_
  rintro e w1 ⟨rfl, rfl⟩
  go_wp2
  go_ret2
  exact ⟨rfl, rfl⟩
theorem outB_len (zs : List Int) (J : Nat) (hJ : Ends zs J) (hl : zs.length ≤ 6000) : (outB zs J).length ≤ 100000 := by
  have a := acc_bd zs J hJ J (Nat.le_refl _)
  have b := puts_len ([], 0) (acc zs J ++ codeOf 0 7)
  rw [List.length_append, codeOf_len] at b
  unfold outB
  simp at b
  omega
end Go.Proofs.YteehoihkbcbbgaaDoor
