/-
  What PackBest of both answers where there may be no list at all; each theorem names its conditions.
  Packing and unpacking of data that may be no list; data as texts; the law's draw; each theorem names its conditions.
  What each chunk tells of a picture's file, by the program; each theorem names its conditions.
  What a chunk makes of a picture's file, by the program; each theorem names its conditions.
-/
import Derived.Test.YtaeicgfebeliiaaGreatDoorJAP
import Derived.Test.YtaeicgfebeliiaaGreatDoorJAS
import Derived.Lib.SlBytesRow
import Derived.Lib.BufferRead
import Derived.Deep.DeepCutAuto
namespace Go.Proofs.YtaeicgfebeliiaaGreatDoor
open Go.ChangeShapes Go.WideShapes Go.ChangeAt Go.RowKit
set_option linter.unusedVariables false

theorem cells_int {W : World} {b : Nat} {ds : List Nat} (hc : ∀ i, i < ds.length → W.cell? ⟨b, 0 + i, none⟩ = some (.int .u8 ((ds.getD i 0 : Nat) : Int))) : ∀ i, i < (ints ds).length → W.cell? ⟨b, 0 + i, none⟩ = some (.int .u8 ((ints ds).getD i 0)) := by
  intro i hi
  rw [ints_len] at hi
  rw [ints_get]
  exact hc i hi
set_option maxHeartbeats 2000000 in
theorem ibestA (W : World) (a : Option Addr) (b cap : Nat) (ds : List Nat) (J : Nat) (hJ : Ends (ints ds) J) (ht : Tabs W) (hl : ds.length ≤ 6000) (h8 : ∀ d ∈ ds, d < 256) (hb0 : b < W.heap.size) (hc0 : ∀ i, i < ds.length → W.cell? ⟨b, 0 + i, none⟩ = some (.int .u8 ((ds.getD i 0 : Nat) : Int))) (hnil : ds = [] ∨ a = some ⟨b, 0, none⟩) :
    Calls Tryz.prog 39 #[.slice a ds.length cap] W fun e w' => ∃ g c, e = .returned (.tuple #[.slice (some ⟨g, 0, none⟩) (bestL ds J).length c, .bool true]) ∧ Made W w' g (ints (bestL ds J)) := by
  have H1 : Hid _ := istoredA W a b cap ds hl h8 hb0 hc0 hnil
  have h4 : 4 ≤ W.heap.size := ht.2.2.2.2
  have H2 : Hid (∀ w1, Below W.heap.size W w1 → Calls Tryz.prog 63 #[.slice a ds.length cap] w1 fun e w' => ∃ g c, e = .returned (.tuple #[.slice (some ⟨g, 0, none⟩) (outB (ints ds) J).length c, .bool true]) ∧ Gave w1 w' g (outB (ints ds) J) c) := by
    intro w1 hb
    have h := ifixA w1 a b cap (ints ds) J hJ (ht.below hb h4) (by rw [ints_len]; exact hl) (ints_bd ds h8) (Nat.lt_of_lt_of_le hb0 (Below.size hb)) (fun i hi => (Below.cell hb (p := ⟨b, 0 + i, none⟩) hb0).trans (cells_int hc0 i hi)) (hnil.imp (fun e => by rw [e]; rfl) id)
    rw [ints_len] at h
    exact h
  have hsl := stored_len ds
  have hpos := outB_pos (ints ds) J
  unfold bestL
  clear hJ ht h8 hc0 hnil
  by_cases hlt : (outB (ints ds) J).length < ds.length + 5
  · rw [if_pos hlt]
    have d1 : decide (((outB (ints ds) J).length : Int) < ((stored ds).length : Int)) = true := by simp; omega
    have d2 : decide ((outB (ints ds) J).length < (stored ds).length) = true := by simp; omega
    generalize outB (ints ds) J = O at *
    generalize stored ds = T at *
    clear hlt hsl
    go_enter Tryz.func39, Tryz.ntmps39
    go_wp2_with fail
    refine Calls.mono H1.out ?_
    rintro e w1 ⟨g1, c1, rfl, hg⟩
    have HB : Hid (Below W.heap.size W w1) := hg.1
    clear hg
    go_wp2_with fail
    refine Calls.mono (H2.out w1 HB.out) ?_
    rintro e w2 ⟨g2, c2, rfl, hg⟩
    have HM : Hid (Made W w2 g2 (ints O)) := ⟨Nw.trans HB.out hg.1, Nat.le_trans (Below.size HB.out) hg.2.1, At.gave hg⟩
    clear hg
    go_wp2
    go_ret2
    exact ⟨_, _, rfl, HM.out⟩
  · rw [if_neg hlt]
    have d1 : decide (((outB (ints ds) J).length : Int) < ((stored ds).length : Int)) = false := by simp; omega
    have d2 : decide ((outB (ints ds) J).length < (stored ds).length) = false := by simp; omega
    generalize outB (ints ds) J = O at *
    generalize stored ds = T at *
    clear hlt hsl
    go_enter Tryz.func39, Tryz.ntmps39
    go_wp2_with fail
    refine Calls.mono H1.out ?_
    rintro e w1 ⟨g1, c1, rfl, hg⟩
    have HB : Hid (Below W.heap.size W w1) := hg.1
    have HA : Hid (At w1 g1 (ints T)) := At.gave hg
    have HZ : Hid (W.heap.size ≤ g1) := hg.2.1
    clear hg
    go_wp2_with fail
    refine Calls.mono (H2.out w1 HB.out) ?_
    rintro e w2 ⟨g2, c2, rfl, hg⟩
    have HM : Hid (Made W w2 g1 (ints T)) := ⟨Nw.trans HB.out hg.1, HZ.out, At.nw HA.out hg.1⟩
    clear hg
    go_wp2
    go_ret2
    exact ⟨_, _, rfl, HM.out⟩
theorem ends_nil {J : Nat} (h : Ends (ints []) J) : J = 0 := by
  by_cases e : J = 0
  · exact e
  · exact absurd (h.2 0 (by omega)) (Nat.not_lt_zero _)
set_option maxRecDepth 100000 in
theorem outB_nil : (outB (ints []) 0).length < 0 + 5 := by decide +kernel
set_option maxHeartbeats 2000000 in
theorem sl2best0 (W : World) (cap J : Nat) (hJ : Ends (ints []) J) (h0 : 0 < W.heap.size) :
    Calls Tryz.prog 67 #[.slice none 0 cap] W fun e w' => ∃ g c, e = .returned (.slice (some ⟨g, 0, none⟩) (bestL [] J).length c) ∧ Made W w' g (ints (bestL [] J)) := by
  have H1 : Hid (Calls Tryz.prog 85 #[.slice none 0 cap] W fun e w' => ∃ g c, e = .returned (.slice (some ⟨g, 0, none⟩) (outB (ints []) J).length c) ∧ Gave W w' g (outB (ints []) J) c) :=
    sfixA W none 0 cap (ints []) J hJ (Nat.zero_le _) (fun i hi => absurd hi (Nat.not_lt_zero _)) h0 (fun i hi => absurd hi (Nat.not_lt_zero _)) (Or.inl rfl)
  have hlt : (outB (ints []) J).length < 0 + 5 := by rw [ends_nil hJ]; exact outB_nil
  have e1 : bestL [] J = outB (ints []) J := by unfold bestL; exact if_pos hlt
  rw [e1]
  clear hJ e1
  have d1 : decide (((outB (ints []) J).length : Int) < 5) = true := by simp; omega
  generalize outB (ints []) J = O at *
  clear hlt
  go_enter Tryz.func67, Tryz.ntmps67
  go_wp2_with fail
  refine Calls.mono H1.out ?_
  rintro e w1 ⟨g1, c1, rfl, hg⟩
  have HM : Hid (Made W w1 g1 (ints O)) := ⟨hg.1, hg.2.1, At.gave hg⟩
  clear hg
  go_wp2
  go_ret
  exact ⟨_, _, rfl, HM.out⟩
end Go.Proofs.YtaeicgfebeliiaaGreatDoor
namespace Go.Proofs.YtaeicgfebeliiaaGreatDoor
open Go.ChangeShapes Go.WideShapes Go.ChangeAt Go.RowKit
set_option linter.unusedVariables false

theorem ints_nil {ds : List Nat} (h : ints ds = []) : ds = [] := by
  have := congrArg List.length h
  rw [ints_len] at this
  exact List.eq_nil_of_length_eq_zero (by simpa using this)
theorem at_nat {w : World} {g : Nat} {ds : List Nat} (h : At w g (ints ds)) : ∀ i, i < ds.length → w.cell? ⟨g, i, none⟩ = some (.int .u8 ((ds.getD i 0 : Nat) : Int)) := fun i hi => by
  have := cells_nat h i hi
  rwa [Nat.zero_add] at this
theorem own_ways {W : World} {B : Nat} {v : Value} {ds : List Nat} (h : Own W B v (ints ds)) : (v = .slice none 0 0 ∧ ds = []) ∨ ∃ g c, v = .slice (some ⟨g, 0, none⟩) ds.length c ∧ At W g (ints ds) := by
  rcases h.form with ⟨e, h0⟩ | ⟨g, c, e, _, _, hA⟩
  · exact Or.inl ⟨e, ints_nil h0⟩
  · rw [ints_len] at e
    exact Or.inr ⟨g, c, e, hA⟩
theorem ibest_own (W : World) (B : Nat) (v : Value) (ds : List Nat) (J : Nat) (hJ : Ends (ints ds) J) (ht : Tabs W) (hl : ds.length ≤ 6000) (h8 : ∀ d ∈ ds, d < 256) (ho : Own W B v (ints ds)) :
    Calls Tryz.prog 39 #[v] W fun e w' => ∃ g c, e = .returned (.tuple #[.slice (some ⟨g, 0, none⟩) (bestL ds J).length c, .bool true]) ∧ Made W w' g (ints (bestL ds J)) := by
  have h4 : 4 ≤ W.heap.size := ht.2.2.2.2
  rcases own_ways ho with ⟨rfl, rfl⟩ | ⟨g, c, rfl, hA⟩
  · exact ibestA W none 0 0 [] J hJ ht hl h8 (by omega) (fun i hi => absurd hi (Nat.not_lt_zero _)) (Or.inl rfl)
  · exact ibestA W (some ⟨g, 0, none⟩) g c ds J hJ ht hl h8 hA.1 (cells_nat hA) (Or.inr rfl)
theorem istored_own (W : World) (B : Nat) (v : Value) (ds : List Nat) (h0 : 0 < W.heap.size) (hl : ds.length ≤ 6000) (h8 : ∀ d ∈ ds, d < 256) (ho : Own W B v (ints ds)) :
    Calls Tryz.prog 62 #[v] W fun e w' => ∃ g c, e = .returned (.tuple #[.slice (some ⟨g, 0, none⟩) (stored ds).length c, .bool true]) ∧ Made W w' g (ints (stored ds)) := by
  have h : Calls Tryz.prog 62 #[v] W fun e w' => ∃ g c, e = .returned (.tuple #[.slice (some ⟨g, 0, none⟩) (stored ds).length c, .bool true]) ∧ Gave W w' g (stored ds) c := by
    rcases own_ways ho with ⟨rfl, rfl⟩ | ⟨g, c, rfl, hA⟩
    · exact istoredA W none 0 0 [] hl h8 h0 (fun i hi => absurd hi (Nat.not_lt_zero _)) (Or.inl rfl)
    · exact istored W g c ds hl h8 hA.1 (cells_nat hA)
  refine Calls.mono h ?_
  rintro e w' ⟨g, c, rfl, hg⟩
  exact ⟨g, c, rfl, hg.1, hg.2.1, At.gave hg⟩
theorem ifixed_own (W : World) (B : Nat) (v : Value) (ds : List Nat) (J : Nat) (hJ : Ends (ints ds) J) (ht : Tabs W) (hl : ds.length ≤ 6000) (h8 : ∀ d ∈ ds, d < 256) (ho : Own W B v (ints ds)) :
    Calls Tryz.prog 63 #[v] W fun e w' => ∃ g c, e = .returned (.tuple #[.slice (some ⟨g, 0, none⟩) (outB (ints ds) J).length c, .bool true]) ∧ Made W w' g (ints (outB (ints ds) J)) := by
  have h4 : 4 ≤ W.heap.size := ht.2.2.2.2
  have h : Calls Tryz.prog 63 #[v] W fun e w' => ∃ g c, e = .returned (.tuple #[.slice (some ⟨g, 0, none⟩) (outB (ints ds) J).length c, .bool true]) ∧ Gave W w' g (outB (ints ds) J) c := by
    rcases own_ways ho with ⟨rfl, rfl⟩ | ⟨g, c, rfl, hA⟩
    · exact ifixA W none 0 0 (ints []) J hJ ht hl (ints_bd [] h8) (by omega) (fun i hi => absurd hi (Nat.not_lt_zero _)) (Or.inl rfl)
    · have h := ifix W g c (ints ds) J hJ ht (by rw [ints_len]; exact hl) (ints_bd ds h8) hA.1 hA.2.1
      rw [ints_len] at h
      exact h
  refine Calls.mono h ?_
  rintro e w' ⟨g, c, rfl, hg⟩
  exact ⟨g, c, rfl, hg.1, hg.2.1, At.gave hg⟩
/-- What an unpacking answers. -/
def Unp (w : World) (n : Nat) (zs : List Int) (e : Ending) (w' : World) : Prop := ∃ v, e = .returned (.tuple #[v, .int .i64 (n : Int), .int .i64 0]) ∧ Own w' w.heap.size v zs ∧ Nw w w'
/-- The bytes ds lie from the place off on. -/
def Row8 (W : World) (g off : Nat) (ds : List Nat) : Prop := g < W.heap.size ∧ ∀ i, i < ds.length → W.cell? ⟨g, off + i, none⟩ = some (.int .u8 ((ds.getD i 0 : Nat) : Int))
theorem row8_at {W : World} {g : Nat} {ds : List Nat} (h : At W g (ints ds)) : Row8 W g 0 ds := ⟨h.1, cells_nat h⟩
theorem unpackSx (W : World) (g off c : Nat) (xs ex : List Nat) (hl : xs.length ≤ 6000) (hle : ex.length ≤ 1000) (h8 : ∀ d ∈ xs, d < 256) (hex : ∀ d ∈ ex, d < 256) (hA : Row8 W g off (stored xs ++ ex)) :
    Calls Tryz.prog 51 #[.slice (some ⟨g, off, none⟩) (stored xs ++ ex).length c] W (Unp W (stored xs).length (ints xs)) := by
  have hsl := stored_len xs
  have hal : (stored xs ++ ex).length = (stored xs).length + ex.length := List.length_append
  exact unpack_of W g off c (stored xs ++ ex) (ints xs) (8 * (stored xs).length) (stored xs).length (by omega) (by omega) (by omega) hA.1 hA.2 (fun w1 n s => blockStored_any w1 W.heap.size g off c xs ex hl hle h8 hex s (Nat.lt_of_lt_of_le hA.1 (Below.size n)))
theorem unpackFx (W : World) (g off c : Nat) (ds ex : List Nat) (J : Nat) (hJ : Ends (ints ds) J) (ht : Tabs W) (hl : ds.length ≤ 6000) (hle : ex.length ≤ 1000) (h8 : ∀ d ∈ ds, d < 256) (hex : ∀ d ∈ ex, d < 256) (hA : Row8 W g off (outB (ints ds) J ++ ex)) :
    Calls Tryz.prog 51 #[.slice (some ⟨g, off, none⟩) (outB (ints ds) J ++ ex).length c] W (Unp W (outB (ints ds) J).length (ints ds)) := by
  have hk := bks_ex (ints ds) J ex hex
  have hb := acc_bd (ints ds) J hJ J (Nat.le_refl _)
  have hj := hJ.1
  have hll := ints_len ds
  have hlen := outB_len8 (ints ds) J
  have hal : (outB (ints ds) J ++ ex).length = (outB (ints ds) J).length + ex.length := List.length_append
  have h4 : 4 ≤ W.heap.size := ht.2.2.2.2
  exact unpack_of W g off c (outB (ints ds) J ++ ex) (ints ds) ((acc (ints ds) J).length + 7) (outB (ints ds) J).length (by omega) (by omega) (by omega) hA.1 hA.2 (fun w1 n s => blockFixed_any w1 W.heap.size g off c (outB (ints ds) J ++ ex) (ints ds) J hJ (by omega) (ints_bd ds h8) hk (by omega) (ht.below n h4) h4 s (Nat.lt_of_lt_of_le hA.1 (Below.size n)))
theorem unpackBx (W : World) (g off c : Nat) (ds ex : List Nat) (J : Nat) (hJ : Ends (ints ds) J) (ht : Tabs W) (hl : ds.length ≤ 6000) (hle : ex.length ≤ 1000) (h8 : ∀ d ∈ ds, d < 256) (hex : ∀ d ∈ ex, d < 256) (hA : Row8 W g off (bestL ds J ++ ex)) :
    Calls Tryz.prog 51 #[.slice (some ⟨g, off, none⟩) (bestL ds J ++ ex).length c] W (Unp W (bestL ds J).length (ints ds)) := by
  unfold bestL at hA ⊢
  split
  · next h => rw [if_pos h] at hA; exact unpackFx W g off c ds ex J hJ ht hl hle h8 hex hA
  · next h => rw [if_neg h] at hA; exact unpackSx W g off c ds ex hl hle h8 hex hA
theorem unpackS (W : World) (g c : Nat) (xs : List Nat) (hl : xs.length ≤ 6000) (h8 : ∀ d ∈ xs, d < 256) (hA : At W g (ints (stored xs))) :
    Calls Tryz.prog 51 #[.slice (some ⟨g, 0, none⟩) (stored xs).length c] W (Unp W (stored xs).length (ints xs)) := by
  have h := unpackSx W g 0 c xs [] hl (Nat.zero_le _) h8 (fun d hd => by cases hd) (by rw [List.append_nil]; exact row8_at hA)
  rwa [List.append_nil] at h
theorem unpackF (W : World) (g c : Nat) (ds : List Nat) (J : Nat) (hJ : Ends (ints ds) J) (ht : Tabs W) (hl : ds.length ≤ 6000) (h8 : ∀ d ∈ ds, d < 256) (hA : At W g (ints (outB (ints ds) J))) :
    Calls Tryz.prog 51 #[.slice (some ⟨g, 0, none⟩) (outB (ints ds) J).length c] W (Unp W (outB (ints ds) J).length (ints ds)) := by
  have h := unpackFx W g 0 c ds [] J hJ ht hl (Nat.zero_le _) h8 (fun d hd => by cases hd) (by rw [List.append_nil]; exact row8_at hA)
  rwa [List.append_nil] at h
theorem unpackB (W : World) (g c : Nat) (ds : List Nat) (J : Nat) (hJ : Ends (ints ds) J) (ht : Tabs W) (hl : ds.length ≤ 6000) (h8 : ∀ d ∈ ds, d < 256) (hA : At W g (ints (bestL ds J))) :
    Calls Tryz.prog 51 #[.slice (some ⟨g, 0, none⟩) (bestL ds J).length c] W (Unp W (bestL ds J).length (ints ds)) := by
  have h := unpackBx W g 0 c ds [] J hJ ht hl (Nat.zero_le _) h8 (fun d hd => by cases hd) (by rw [List.append_nil]; exact row8_at hA)
  rwa [List.append_nil] at h
/-- Data as a text. -/
def strOf (ds : List Nat) : ByteArray := ⟨(ds.map UInt8.ofNat).toArray⟩
theorem strOf_size (ds : List Nat) : (strOf ds).size = ds.length := by show (ds.map UInt8.ofNat).toArray.size = _; simp
theorem conv_at (w : World) (g c : Nat) (ds : List Nat) (h8 : ∀ d ∈ ds, d < 256) (hA : At w g (ints ds)) : (convert 22 9 (.slice (some ⟨g, 0, none⟩) ds.length c)).run Tryz.prog w = .ok (.string (strOf ds)) w := by
  have hu : Tryz.prog.underlying 9 = some .string := Tryz.underlying9
  have hb : Tryz.prog.underlying 5 = some (.int .u8) := Tryz.underlying5
  have h := Lib.run_convert_whole (P := Tryz.prog) w _ _ _ Tryz.underlying22 hb hu g 0 (strOf ds) (fun i hi => by
    rw [strOf_size] at hi
    rw [Nat.zero_add, at_nat hA i hi]
    have hd : ds[i] < 256 := h8 _ (List.getElem_mem _)
    have e : ds.getD i 0 = ds[i] := by simp [hi]
    have e2 : ((strOf ds)[i]'(by rw [strOf_size]; exact hi)).toNat = ds[i] := by
      show ((ds.map UInt8.ofNat).toArray[i]'(by simpa using hi)).toNat = _
      simp; omega
    rw [e]
    first | rw [e2] | (simp [e2])) c
  rw [strOf_size] at h
  exact h
theorem conv_own (w : World) (B : Nat) (v : Value) (ds : List Nat) (h8 : ∀ d ∈ ds, d < 256) (ho : Own w B v (ints ds)) : (convert 22 9 v).run Tryz.prog w = .ok (.string (strOf ds)) w := by
  rcases own_ways ho with ⟨rfl, rfl⟩ | ⟨g, c, rfl, hA⟩
  · have hu : Tryz.prog.underlying 9 = some .string := Tryz.underlying9
    have hb : Tryz.prog.underlying 5 = some (.int .u8) := Tryz.underlying5
    exact Lib.run_convert_nil_bytes w _ _ _ 0 Tryz.underlying22 hb hu
  · exact conv_at w g c ds h8 hA
end Go.Proofs.YtaeicgfebeliiaaGreatDoor
namespace Go.Proofs.YtaeicgfebeliiaaGreatDoor
open Go.ChangeShapes Go.WideShapes Go.ChangeAt Go.RowKit
set_option linter.unusedVariables false

set_option maxHeartbeats 1000000 in
theorem equal_any (w : World) (g1 o1 c1 g2 o2 c2 n : Nat) (s : ByteArray) (hn : s.size = n) (h1 : Lz w g1 o1 (strInts s)) (h2 : Lz w g2 o2 (strInts s)) :
    Calls Tryz.prog 47 #[.slice (some ⟨g1, o1, none⟩) n c1, .slice (some ⟨g2, o2, none⟩) n c2] w fun e w' => e = .returned (.bool true) ∧ w' = w := by
  have v1 := conv_str w g1 o1 c1 s h1
  have v2 := conv_str w g2 o2 c2 s h2
  rw [hn] at v1 v2
  clear h1 h2 hn
  go_enter Tryz.func47, Tryz.ntmps47
  go_wp2
  go_ret
  exact ⟨rfl, rfl⟩
def s5 : ByteArray := ⟨#[8, 6, 0, 0, 0]⟩
def s8 : ByteArray := ⟨#[137, 80, 78, 71, 13, 10, 26, 10]⟩
theorem s5_is : strInts s5 = [8, 6, 0, 0, 0] := rfl
theorem s8_is : strInts s8 = mark8 := rfl
theorem suffix_any (w : World) (g1 o1 c1 g2 : Nat) (hc : 13 ≤ c1) (hcm : c1 ≤ 9223372036854775807) (h1 : Lz w g1 (o1 + 8) [8, 6, 0, 0, 0]) (h2 : Lz w g2 0 [8, 6, 0, 0, 0]) :
    Calls Tryz.prog 87 #[.slice (some ⟨g1, o1, none⟩) 13 c1, .slice (some ⟨g2, 0, none⟩) 5 5] w fun e w' => e = .returned (.bool true) ∧ w' = w := by
  have H : Hid _ := equal_any w g1 (o1 + 8) (c1 - 8) g2 0 5 5 s5 rfl h1 h2
  clear h1 h2
  go_enter Tryz.func87, Tryz.ntmps87
  go_wp2_with fail
  refine Calls.mono H.out ?_
  rintro e w1 ⟨rfl, rfl⟩
  go_wp2
  go_ret
  exact ⟨rfl, rfl⟩
theorem prefix_any (w : World) (g1 o1 n c1 g2 : Nat) (hn : 8 ≤ n) (hc : n ≤ c1) (hcm : c1 ≤ 9223372036854775807) (h1 : Lz w g1 o1 mark8) (h2 : Lz w g2 0 mark8) :
    Calls Tryz.prog 22 #[.slice (some ⟨g1, o1, none⟩) n c1, .slice (some ⟨g2, 0, none⟩) 8 8] w fun e w' => e = .returned (.bool true) ∧ w' = w := by
  have H : Hid _ := equal_any w g1 o1 c1 g2 0 8 8 s8 rfl h1 h2
  have d1 : decide ((8 : Int) ≤ (n : Int)) = true := by simp; omega
  have d2 : decide (8 ≤ n) = true := by simp; omega
  clear h1 h2
  go_enter Tryz.func22, Tryz.ntmps22
  go_wp2_with fail
  refine Calls.mono H.out ?_
  rintro e w1 ⟨rfl, rfl⟩
  go_wp2
  go_ret
  exact ⟨rfl, rfl⟩
/-- A picture's file as it is known so far, as a value. -/
def fileV (pl wd hg : Int) (v : Value) : Value := .agg #[.int .i64 pl, .int .i64 wd, .int .i64 hg, v]
/-- Four cells of a file. -/
structure FAt (w : World) (B : Nat) (pl wd hg : Int) (v : Value) : Prop where
  c0 : w.cell? ⟨B, 0, none⟩ = some (.int .i64 pl)
  c1 : w.cell? ⟨B, 1, none⟩ = some (.int .i64 wd)
  c2 : w.cell? ⟨B, 2, none⟩ = some (.int .i64 hg)
  c3 : w.cell? ⟨B, 3, none⟩ = some v
  fr : ∀ o, w.frozen? ⟨B, o, none⟩ = false
theorem FAt.lt {w : World} {B : Nat} {pl wd hg : Int} {v : Value} (h : FAt w B pl wd hg v) : B < w.heap.size := World.block_lt_of_cell? w ⟨B, 0, none⟩ h.c0
theorem FAt.new (w : World) (pl wd hg : Int) (v : Value) (t : TypeId) : FAt (w.alloc (.cells #[.int .i64 pl, .int .i64 wd, .int .i64 hg, v] t)) w.heap.size pl wd hg v :=
  ⟨by simp, by simp, by simp, by simp, fun o => World.frozen?_alloc_at _ _ _ _ rfl⟩
theorem FAt.nw {w w' : World} {B : Nat} {pl wd hg : Int} {v : Value} (h : FAt w B pl wd hg v) (k : Nw w w') : FAt w' B pl wd hg v :=
  ⟨((bcell k).1 _ _ h.lt).trans h.c0, ((bcell k).1 _ _ h.lt).trans h.c1, ((bcell k).1 _ _ h.lt).trans h.c2, ((bcell k).1 _ _ h.lt).trans h.c3, fun o => ((bcell k).2 _ _ h.lt).trans (h.fr o)⟩
theorem FAt.set {w : World} {B R o : Nat} {pl wd hg : Int} {v u : Value} (h : FAt w B pl wd hg v) (hne : R ≠ B) : FAt (w.setCell ⟨R, o, none⟩ u) B pl wd hg v := by
  have e : ∀ o', (w.setCell ⟨R, o, none⟩ u).cell? ⟨B, o', none⟩ = w.cell? ⟨B, o', none⟩ := fun o' => World.cell?_setCell_other _ _ _ _ (fun e => by injection e; omega)
  exact ⟨(e _).trans h.c0, (e _).trans h.c1, (e _).trans h.c2, (e _).trans h.c3, fun o' => by rw [World.frozen?_setCell]; exact h.fr o'⟩
/-- All four cells are written. -/
theorem FAt.store {w : World} {B : Nat} {pl wd hg : Int} {v : Value} (h : FAt w B pl wd hg v) (pl' wd' hg' : Int) (v' : Value) : FAt ((((w.setCell ⟨B, 0, none⟩ (.int .i64 pl')).setCell ⟨B, 1, none⟩ (.int .i64 wd')).setCell ⟨B, 2, none⟩ (.int .i64 hg')).setCell ⟨B, 3, none⟩ v') B pl' wd' hg' v' := by
  have ne : ∀ (V : World) (a b : Nat) (u : Value), a ≠ b → (V.setCell ⟨B, a, none⟩ u).cell? ⟨B, b, none⟩ = V.cell? ⟨B, b, none⟩ := fun V a b u hab => World.cell?_setCell_other _ _ _ _ (fun e => by injection e; omega)
  refine ⟨?_, ?_, ?_, ?_, fun o => ?_⟩
  · rw [ne _ 3 0 _ (by omega), ne _ 2 0 _ (by omega), ne _ 1 0 _ (by omega)]; exact World.cell?_setCell_same w ⟨B, 0, none⟩ _ h.c0
  · rw [ne _ 3 1 _ (by omega), ne _ 2 1 _ (by omega)]; exact World.cell?_setCell_same _ ⟨B, 1, none⟩ _ ((ne _ 0 1 _ (by omega)).trans h.c1)
  · rw [ne _ 3 2 _ (by omega)]; exact World.cell?_setCell_same _ ⟨B, 2, none⟩ _ ((ne _ 1 2 _ (by omega)).trans ((ne _ 0 2 _ (by omega)).trans h.c2))
  · exact World.cell?_setCell_same _ ⟨B, 3, none⟩ _ ((ne _ 2 3 _ (by omega)).trans ((ne _ 1 3 _ (by omega)).trans ((ne _ 0 3 _ (by omega)).trans h.c3)))
  · rw [World.frozen?_setCell, World.frozen?_setCell, World.frozen?_setCell, World.frozen?_setCell]; exact h.fr o
theorem FAt.ext {w w' : World} {B : Nat} {pl wd hg : Int} {v u u' : Value} (h : FAt w B pl wd hg v) (k : Ext u u' w w') (hne : u.ownBlock ≠ some B) : FAt w' B pl wd hg v :=
  ⟨(Ext.cell k h.lt hne _).trans h.c0, (Ext.cell k h.lt hne _).trans h.c1, (Ext.cell k h.lt hne _).trans h.c2, (Ext.cell k h.lt hne _).trans h.c3, fun o => (World.frozen?_of_block (w := w) (a := ⟨B, o, none⟩) (k.1.block B h.lt (fun e => hne e.symm))).trans (h.fr o)⟩
theorem Own.farB {w : World} {B : Nat} {v : Value} {l : List Int} (h : Own w B v l) {b o : Nat} {u : Value} (hb : b < B) : Own (w.setCell ⟨b, o, none⟩ u) B v l :=
  World.ownsRow.kept h set_grown (Or.inr (own_ne h hb))
theorem nw_set {w W : World} (h : Nw w W) {R o : Nat} {u : Value} (hR : w.heap.size ≤ R) : Nw w (W.setCell ⟨R, o, none⟩ u) := h.setCell hR _
set_option maxHeartbeats 4000000 in
theorem withHead_any (w : World) (g q wide high : Nat) (hw : 1 ≤ wide ∧ wide ≤ 36) (hh : 1 ≤ high ∧ high ≤ 36) (h : Lz w g q (head13 wide high)) :
    Calls Tryz.prog 69 #[fileV 0 0 0 (.slice none 0 0), .slice (some ⟨g, q, none⟩) 13 13] w fun e w' => e = .returned (.tuple #[fileV 1 (wide : Int) (high : Int) (.slice none 0 0), .int .i64 0]) ∧ Nw w w' := by
  unfold fileV
  have p0 := h.left.left
  have p1 := h.left.right
  have p2 := h.right
  have HL : Hid (Lz w g q (head13 wide high)) := h
  have N0 : Hid (∀ W, Nw w W → _) := fun W k => numberAt_any W g q 13 13 0 (wide : Int) (by omega) (by omega) (by omega) (by omega) (by omega) (fun i hi => by rw [Nat.add_zero]; exact (p0.nw k).2 i (by rw [four_len]; exact hi))
  have N1 : Hid (∀ W, Nw w W → _) := fun W k => numberAt_any W g q 13 13 4 (high : Int) (by omega) (by omega) (by omega) (by omega) (by omega) (fun i hi => (p1.nw k).2 i (by rw [four_len]; exact hi))
  have S0 : Hid (∀ W g2, Nw w W → Lz W g2 0 [8, 6, 0, 0, 0] → _) := fun W g2 k h2 => suffix_any W g q 13 g2 (by omega) (by omega) (p2.nw k) h2
  have G1 : Hid (∀ W, _) := fun W => igoodSide W (wide : Int)
  have G2 : Hid (∀ W, _) := fun W => igoodSide W (high : Int)
  have e1 : decide (1 ≤ (wide : Int) ∧ (wide : Int) ≤ 36) = true := by simp; omega
  have e2 : decide (1 ≤ (high : Int) ∧ (high : Int) ≤ 36) = true := by simp; omega
  rw [e1] at G1
  rw [e2] at G2
  obtain ⟨W1, hW1⟩ : ∃ W, w.alloc (.cells #[.int .i64 0, .int .i64 0, .int .i64 0, .slice none 0 0] 46) = W := ⟨_, rfl⟩
  obtain ⟨W2, hW2⟩ : ∃ W, W1.alloc (.cells #[.int .i64 0, .int .i64 0, .int .i64 0, .slice none 0 0] 46) = W := ⟨_, rfl⟩
  have z1 : W1.heap.size = w.heap.size + 1 := by rw [← hW1]; simp
  have n1 : Nw w W1 := by rw [← hW1]; exact (Below.refl _ _).alloc (Nat.le_refl _) _
  have n2 : Nw W1 W2 := by rw [← hW2]; exact (Below.refl _ _).alloc (Nat.le_refl _) _
  have FB : Hid (FAt W2 w.heap.size 0 0 0 (.slice none 0 0)) := by
    have h : FAt W1 w.heap.size 0 0 0 (.slice none 0 0) := by rw [← hW1]; exact FAt.new _ _ _ _ _ _
    exact h.nw n2
  have FR : Hid (FAt W2 (w.heap.size + 1) 0 0 0 (.slice none 0 0)) := by
    show FAt _ _ _ _ _ _
    rw [← z1, ← hW2]; exact FAt.new _ _ _ _ _ _
  have NW : Hid (Nw w W2) := Nw.trans n1 n2
  have HW1 : Hid (_ = W1) := hW1
  have HW2 : Hid (_ = W2) := hW2
  clear p0 p1 p2 h e1 e2 hW1 hW2 n1 n2 z1
  go_enter Tryz.func69, Tryz.ntmps69
  go_wp2_with fail
  rw [HW1.out, HW2.out]
  refine Calls.mono (iheadTail W2) ?_
  rintro e w3 ⟨rfl, n3, o3⟩
  have N3 : Hid (Nw w w3) := Nw.trans NW.out n3
  have FB3 : Hid (FAt w3 w.heap.size 0 0 0 (.slice none 0 0)) := FB.out.nw n3
  have FR3 : Hid (FAt w3 (w.heap.size + 1) 0 0 0 (.slice none 0 0)) := FR.out.nw n3
  have T3 : Hid (Lz w3 W2.heap.size 0 [8, 6, 0, 0, 0]) := by
    rcases o3.form with ⟨e, _⟩ | ⟨g2, c2, e, _, hg, hA⟩
    · cases e
    · injection e with e1 e2 e3
      injection e1 with e1
      injection e1 with e1
      subst e1
      exact ⟨hA.1, hA.2.1⟩
  clear n3 o3
  go_wp2_with fail
  refine Calls.mono (S0.out w3 _ N3.out T3.out) ?_
  rintro e w4 ⟨rfl, rfl⟩
  go_wp2_with fail
  refine Calls.mono (N0.out w4 N3.out) ?_
  rintro e w5 ⟨rfl, rfl⟩
  go_wp2_with fail
  refine Calls.mono (N1.out w5 N3.out) ?_
  rintro e w6 ⟨rfl, rfl⟩
  obtain ⟨c0, c1, c2, c3, cf⟩ := FB3.out
  obtain ⟨d0, d1, d2, d3, df⟩ := FR3.out
  go_wp2_with fail
  refine Calls.mono (G1.out _) ?_
  rintro e w7 ⟨rfl, rfl⟩
  go_wp2_with fail
  refine Calls.mono (G2.out _) ?_
  rintro e w8 ⟨rfl, rfl⟩
  go_wp2
  have V3 : Nw w (((w6.setCell ⟨w.heap.size, 1, none⟩ (.int .i64 (wide : Int))).setCell ⟨w.heap.size, 2, none⟩ (.int .i64 (high : Int))).setCell ⟨w.heap.size, 0, none⟩ (.int .i64 1)) := nw_set (nw_set (nw_set N3.out (Nat.le_refl _)) (Nat.le_refl _)) (Nat.le_refl _)
  have F3 : FAt (((w6.setCell ⟨w.heap.size, 1, none⟩ (.int .i64 (wide : Int))).setCell ⟨w.heap.size, 2, none⟩ (.int .i64 (high : Int))).setCell ⟨w.heap.size, 0, none⟩ (.int .i64 1)) (w.heap.size + 1) 0 0 0 (.slice none 0 0) := ((FR3.out.set (by omega)).set (by omega)).set (by omega)
  have kk := F3.store 1 (wide : Int) (high : Int) (.slice none 0 0)
  have kn := nw_set (u := .slice none 0 0) (o := 3) (nw_set (u := .int .i64 (high : Int)) (o := 2) (nw_set (u := .int .i64 (wide : Int)) (o := 1) (nw_set (u := .int .i64 1) (o := 0) V3 (R := w.heap.size + 1) (by omega)) (R := w.heap.size + 1) (by omega)) (R := w.heap.size + 1) (by omega)) (R := w.heap.size + 1) (by omega)
  generalize (World.setCell (World.setCell (World.setCell (World.setCell (((w6.setCell ⟨w.heap.size, 1, none⟩ (.int .i64 (wide : Int))).setCell ⟨w.heap.size, 2, none⟩ (.int .i64 (high : Int))).setCell ⟨w.heap.size, 0, none⟩ (.int .i64 1)) ⟨w.heap.size + 1, 0, none⟩ (.int .i64 1)) ⟨w.heap.size + 1, 1, none⟩ (.int .i64 (wide : Int))) ⟨w.heap.size + 1, 2, none⟩ (.int .i64 (high : Int))) ⟨w.heap.size + 1, 3, none⟩ (.slice none 0 0)) = X at *
  obtain ⟨k0, k1, k2, k3, kf⟩ := kk
  refine bodyPost_ret (v := .tuple #[.agg #[.int .i64 1, .int .i64 (wide : Int), .int .i64 (high : Int), .slice none 0 0], .int .i64 0]) (by simp [results, Tryz.results69, go_sem, k0, k1, k2, k3]) rfl ⟨rfl, kn⟩
set_option maxHeartbeats 4000000 in
theorem withData_any (w : World) (g q : Nat) (wide high : Int) (pd : List Int) (hl : pd.length ≤ 100000) (h : Lz w g q pd) :
    Calls Tryz.prog 70 #[fileV 1 wide high (.slice none 0 0), .slice (some ⟨g, q, none⟩) pd.length pd.length] w fun e w' => ∃ v, e = .returned (.tuple #[fileV 2 wide high v, .int .i64 0]) ∧ Own w' w.heap.size v pd ∧ Nw w w' := by
  unfold fileV
  obtain ⟨W1, hW1⟩ : ∃ W, w.alloc (.cells #[.int .i64 1, .int .i64 wide, .int .i64 high, .slice none 0 0] 46) = W := ⟨_, rfl⟩
  obtain ⟨W2, hW2⟩ : ∃ W, W1.alloc (.cells #[.int .i64 0, .int .i64 0, .int .i64 0, .slice none 0 0] 46) = W := ⟨_, rfl⟩
  have z1 : W1.heap.size = w.heap.size + 1 := by rw [← hW1]; simp
  have z2 : W2.heap.size = w.heap.size + 2 := by rw [← hW2]; simp; omega
  have n1 : Nw w W1 := by rw [← hW1]; exact (Below.refl _ _).alloc (Nat.le_refl _) _
  have n2 : Nw W1 W2 := by rw [← hW2]; exact (Below.refl _ _).alloc (Nat.le_refl _) _
  have FB : Hid (FAt W2 w.heap.size 1 wide high (.slice none 0 0)) := by
    have h : FAt W1 w.heap.size 1 wide high (.slice none 0 0) := by rw [← hW1]; exact FAt.new _ _ _ _ _ _
    exact h.nw n2
  have FR : Hid (FAt W2 (w.heap.size + 1) 0 0 0 (.slice none 0 0)) := by
    show FAt _ _ _ _ _ _
    rw [← z1, ← hW2]; exact FAt.new _ _ _ _ _ _
  have NW : Hid (Nw w W2) := Nw.trans n1 n2
  have HLz : Hid (Lz W2 g q pd) := h.nw NW.out
  have HW1 : Hid (_ = W1) := hW1
  have HW2 : Hid (_ = W2) := hW2
  have HZ2 : Hid _ := z2
  clear h hW1 hW2 n1 n2 z1
  go_enter Tryz.func70, Tryz.ntmps70
  obtain ⟨c0, c1, c2, c3, cf⟩ := FB.out
  go_upto_region 1 with fail
  rw [HW1.out, HW2.out]
  go_wp2_with (at_builtin; (refine wp_app _ rfl _ _ rfl (w.heap.size + 2) (.slice none 0 0) [] pd rfl (Own.nil _ _) g q _ _ rfl rfl HLz.out ?c1 ?c3 ?_))
  case c1 => simp; omega
  case c3 => omega
  intro v' w' h1 h2
  have FB2 := FB.out.ext h2 (fun e => by cases e)
  have FR2 := FR.out.ext h2 (fun e => by cases e)
  have NW2 : Nw w w' := Nw.trans NW.out (h2.below (fun g e => by cases e) (Nat.le_refl _))
  obtain ⟨sa, sc, rfl⟩ := Own.shape h1
  obtain ⟨m, hm⟩ : ∃ m, pd.length = m := ⟨_, rfl⟩
  have O2 : Hid (Own w' (w.heap.size + 2) (.slice sa m sc) pd) := by
    have h := h1
    rw [hm] at h
    exact h
  rw [hm]
  have F2 : Hid (FAt w' (w.heap.size + 1) 0 0 0 (.slice none 0 0)) := FR2
  have N2 : Hid (Nw w w') := NW2
  obtain ⟨c0, c1, c2, c3, cf⟩ := FB2
  obtain ⟨d0, d1, d2, d3, df⟩ := FR2
  clear h1 h2 NW2 hm
  go_wp2
  have V3 : Nw w ((w'.setCell ⟨w.heap.size, 3, none⟩ (.slice sa m sc)).setCell ⟨w.heap.size, 0, none⟩ (.int .i64 2)) := nw_set (nw_set N2.out (Nat.le_refl _)) (Nat.le_refl _)
  have F3 : FAt ((w'.setCell ⟨w.heap.size, 3, none⟩ (.slice sa m sc)).setCell ⟨w.heap.size, 0, none⟩ (.int .i64 2)) (w.heap.size + 1) 0 0 0 (.slice none 0 0) := (F2.out.set (by omega)).set (by omega)
  have kk := F3.store 2 wide high (.slice sa m sc)
  have kn := nw_set (u := .slice sa m sc) (o := 3) (nw_set (u := .int .i64 high) (o := 2) (nw_set (u := .int .i64 wide) (o := 1) (nw_set (u := .int .i64 2) (o := 0) V3 (R := w.heap.size + 1) (by omega)) (R := w.heap.size + 1) (by omega)) (R := w.heap.size + 1) (by omega)) (R := w.heap.size + 1) (by omega)
  have ko := Own.farB (u := .slice sa m sc) (o := 3) (b := w.heap.size + 1) (Own.farB (u := .int .i64 high) (o := 2) (b := w.heap.size + 1) (Own.farB (u := .int .i64 wide) (o := 1) (b := w.heap.size + 1) (Own.farB (u := .int .i64 2) (o := 0) (b := w.heap.size + 1) (Own.farB (u := .int .i64 2) (o := 0) (b := w.heap.size) (Own.farB (u := .slice sa m sc) (o := 3) (b := w.heap.size) O2.out (by omega)) (by omega)) (by omega)) (by omega)) (by omega)) (by omega)
  generalize (World.setCell (World.setCell (World.setCell (World.setCell ((w'.setCell ⟨w.heap.size, 3, none⟩ (.slice sa m sc)).setCell ⟨w.heap.size, 0, none⟩ (.int .i64 2)) ⟨w.heap.size + 1, 0, none⟩ (.int .i64 2)) ⟨w.heap.size + 1, 1, none⟩ (.int .i64 wide)) ⟨w.heap.size + 1, 2, none⟩ (.int .i64 high)) ⟨w.heap.size + 1, 3, none⟩ (.slice sa m sc)) = X at *
  obtain ⟨k0, k1, k2, k3, kf⟩ := kk
  exact bodyPost_ret (v := .tuple #[.agg #[.int .i64 2, .int .i64 wide, .int .i64 high, .slice sa m sc], .int .i64 0]) (by simp [results, Tryz.results70, go_sem, k0, k1, k2, k3]) rfl ⟨_, rfl, Own.base ko (by omega), kn⟩
set_option maxHeartbeats 4000000 in
theorem withEnd_any (w : World) (g q : Nat) (wide high : Int) (a : Option Addr) (n c : Nat) :
    Calls Tryz.prog 71 #[fileV 2 wide high (.slice a n c), .slice (some ⟨g, q, none⟩) 0 0] w fun e w' => e = .returned (.tuple #[fileV 4 wide high (.slice a n c), .int .i64 0]) ∧ Nw w w' := by
  unfold fileV
  obtain ⟨W1, hW1⟩ : ∃ W, w.alloc (.cells #[.int .i64 2, .int .i64 wide, .int .i64 high, .slice a n c] 46) = W := ⟨_, rfl⟩
  obtain ⟨W2, hW2⟩ : ∃ W, W1.alloc (.cells #[.int .i64 0, .int .i64 0, .int .i64 0, .slice none 0 0] 46) = W := ⟨_, rfl⟩
  have z1 : W1.heap.size = w.heap.size + 1 := by rw [← hW1]; simp
  have n1 : Nw w W1 := by rw [← hW1]; exact (Below.refl _ _).alloc (Nat.le_refl _) _
  have n2 : Nw W1 W2 := by rw [← hW2]; exact (Below.refl _ _).alloc (Nat.le_refl _) _
  have FB : FAt W2 w.heap.size 2 wide high (.slice a n c) := by
    have h : FAt W1 w.heap.size 2 wide high (.slice a n c) := by rw [← hW1]; exact FAt.new _ _ _ _ _ _
    exact h.nw n2
  have FR : FAt W2 (w.heap.size + 1) 0 0 0 (.slice none 0 0) := by
    rw [← z1, ← hW2]; exact FAt.new _ _ _ _ _ _
  have NW : Hid (Nw w W2) := Nw.trans n1 n2
  have FR2 : Hid _ := FR
  have HW1 : Hid (_ = W1) := hW1
  have HW2 : Hid (_ = W2) := hW2
  clear hW1 hW2 n1 n2 z1
  obtain ⟨c0, c1, c2, c3, cf⟩ := FB
  obtain ⟨d0, d1, d2, d3, df⟩ := FR
  go_enter Tryz.func71, Tryz.ntmps71
  go_upto_region 1 with fail
  rw [HW1.out, HW2.out]
  go_wp2
  have V3 : Nw w (W2.setCell ⟨w.heap.size, 0, none⟩ (.int .i64 4)) := nw_set NW.out (Nat.le_refl _)
  have F3 : FAt (W2.setCell ⟨w.heap.size, 0, none⟩ (.int .i64 4)) (w.heap.size + 1) 0 0 0 (.slice none 0 0) := FR2.out.set (by omega)
  have kk := F3.store 4 wide high (.slice a n c)
  have kn := nw_set (u := .slice a n c) (o := 3) (nw_set (u := .int .i64 high) (o := 2) (nw_set (u := .int .i64 wide) (o := 1) (nw_set (u := .int .i64 4) (o := 0) V3 (R := w.heap.size + 1) (by omega)) (R := w.heap.size + 1) (by omega)) (R := w.heap.size + 1) (by omega)) (R := w.heap.size + 1) (by omega)
  generalize (World.setCell (World.setCell (World.setCell (World.setCell (W2.setCell ⟨w.heap.size, 0, none⟩ (.int .i64 4)) ⟨w.heap.size + 1, 0, none⟩ (.int .i64 4)) ⟨w.heap.size + 1, 1, none⟩ (.int .i64 wide)) ⟨w.heap.size + 1, 2, none⟩ (.int .i64 high)) ⟨w.heap.size + 1, 3, none⟩ (.slice a n c)) = X at *
  obtain ⟨k0, k1, k2, k3, kf⟩ := kk
  exact bodyPost_ret (v := .tuple #[.agg #[.int .i64 4, .int .i64 wide, .int .i64 high, .slice a n c], .int .i64 0]) (by simp [results, Tryz.results71, go_sem, k0, k1, k2, k3]) rfl ⟨rfl, kn⟩
end Go.Proofs.YtaeicgfebeliiaaGreatDoor
namespace Go.Proofs.YtaeicgfebeliiaaGreatDoor
open Go.ChangeShapes Go.WideShapes Go.ChangeAt Go.RowKit
set_option linter.unusedVariables false

set_option maxHeartbeats 4000000 in
theorem with_head (w : World) (g q wide high : Nat) (hw : 1 ≤ wide ∧ wide ≤ 36) (hh : 1 ≤ high ∧ high ≤ 36) (h : Lz w g q (head13 wide high)) :
    Calls Tryz.prog 49 #[fileV 0 0 0 (.slice none 0 0), .agg #[.string sIHDR, .slice (some ⟨g, q, none⟩) 13 13]] w fun e w' => e = .returned (.tuple #[fileV 1 (wide : Int) (high : Int) (.slice none 0 0), .int .i64 0]) ∧ Nw w w' := by
  have HCon : Hid (∀ W, Nw w W → _) := fun W k => withHead_any W g q wide high hw hh (h.nw k)
  unfold fileV sIHDR at *
  obtain ⟨W1, hW1⟩ : ∃ W, w.alloc (.cells #[.int .i64 0, .int .i64 (0), .int .i64 (0), .slice none 0 0] 46) = W := ⟨_, rfl⟩
  obtain ⟨W2, hW2⟩ : ∃ W, W1.alloc (.cells #[.string { data := #[73, 72, 68, 82] }, .slice (some ⟨g, q, none⟩) 13 13] 71) = W := ⟨_, rfl⟩
  obtain ⟨W3, hW3⟩ : ∃ W, W2.alloc (.cells #[.int .i64 0, .int .i64 0, .int .i64 0, .slice none 0 0] 46) = W := ⟨_, rfl⟩
  have z1 : W1.heap.size = w.heap.size + 1 := by rw [← hW1]; simp
  have z2 : W2.heap.size = w.heap.size + 1 + 1 := by rw [← hW2]; simp; omega
  have z3 : W3.heap.size = w.heap.size + 3 := by rw [← hW3]; simp; omega
  have n1 : Nw w W1 := by rw [← hW1]; exact (Below.refl _ _).alloc (Nat.le_refl _) _
  have n2 : Nw W1 W2 := by rw [← hW2]; exact (Below.refl _ _).alloc (Nat.le_refl _) _
  have n3 : Nw W2 W3 := by rw [← hW3]; exact (Below.refl _ _).alloc (Nat.le_refl _) _
  have FB : FAt W3 w.heap.size 0 (0) (0) (.slice none 0 0) := by
    have h : FAt W1 w.heap.size 0 (0) (0) (.slice none 0 0) := by rw [← hW1]; exact FAt.new _ _ _ _ _ _
    exact (h.nw n2).nw n3
  have e0 : W3.cell? ⟨w.heap.size + 1, 0, none⟩ = some (.string { data := #[73, 72, 68, 82] }) := by
    rw [(bcell n3).1 _ _ (by omega), ← z1, ← hW2]; simp
  have e1 : W3.cell? ⟨w.heap.size + 1, 1, none⟩ = some (.slice (some ⟨g, q, none⟩) 13 13) := by
    rw [(bcell n3).1 _ _ (by omega), ← z1, ← hW2]; simp
  have FR : FAt W3 (w.heap.size + 1 + 1) 0 0 0 (.slice none 0 0) := by
    rw [← z2, ← hW3]; exact FAt.new _ _ _ _ _ _
  have NW : Hid (Nw w W3) := Nw.trans n1 (Nw.trans n2 n3)
  have FR2 : Hid (FAt W3 (w.heap.size + 1 + 1) 0 0 0 (.slice none 0 0)) := FR
  have HW1 : Hid (_ = W1) := hW1
  have HW2 : Hid (_ = W2) := hW2
  have HW3 : Hid (_ = W3) := hW3
  have HZ3 : Hid _ := z3
  clear hW1 hW2 hW3 n1 n2 n3 z1 z2 FR
  obtain ⟨c0, c1, c2, c3, cf⟩ := FB
  go_enter Tryz.func49, Tryz.ntmps49
  go_upto_region 1 with fail
  rw [HW1.out, HW2.out, HW3.out]
  go_wp2_with fail
  refine Calls.mono (HCon.out W3 NW.out) ?_
  rintro e w4 ⟨rfl, n4⟩
  have NW4 : Hid (Nw w w4) := Nw.trans NW.out n4
  have FR4 : FAt w4 (w.heap.size + 1 + 1) 0 0 0 (.slice none 0 0) := FR2.out.nw n4
  clear n4 c0 c1 c2 c3 cf e0 e1
  have FR5 : Hid (FAt w4 (w.heap.size + 1 + 1) 0 0 0 (.slice none 0 0)) := FR4
  obtain ⟨d0, d1, d2, d3, df⟩ := FR4
  go_wp2
  have kk := FR5.out.store 1 ((wide : Int)) ((high : Int)) (.slice none 0 0)
  have kn := nw_set (u := .slice none 0 0) (o := 3) (nw_set (u := .int .i64 ((high : Int))) (o := 2) (nw_set (u := .int .i64 ((wide : Int))) (o := 1) (nw_set (u := .int .i64 1) (o := 0) NW4.out (R := w.heap.size + 1 + 1) (by omega)) (R := w.heap.size + 1 + 1) (by omega)) (R := w.heap.size + 1 + 1) (by omega)) (R := w.heap.size + 1 + 1) (by omega)
  generalize (World.setCell (World.setCell (World.setCell (World.setCell w4 ⟨w.heap.size + 1 + 1, 0, none⟩ (.int .i64 1)) ⟨w.heap.size + 1 + 1, 1, none⟩ (.int .i64 ((wide : Int)))) ⟨w.heap.size + 1 + 1, 2, none⟩ (.int .i64 ((high : Int)))) ⟨w.heap.size + 1 + 1, 3, none⟩ (.slice none 0 0)) = X at *
  obtain ⟨k0, k1, k2, k3, kf⟩ := kk
  exact bodyPost_ret (v := .tuple #[.agg #[.int .i64 1, .int .i64 ((wide : Int)), .int .i64 ((high : Int)), .slice none 0 0], .int .i64 0]) (by simp [results, Tryz.results49, go_sem, k0, k1, k2, k3]) rfl ⟨rfl, kn⟩

set_option maxHeartbeats 4000000 in
theorem with_data (w : World) (g q : Nat) (wide high : Int) (pd : List Int) (hl : pd.length ≤ 100000) (h : Lz w g q pd) :
    Calls Tryz.prog 49 #[fileV 1 wide high (.slice none 0 0), .agg #[.string sIDAT, .slice (some ⟨g, q, none⟩) pd.length pd.length]] w fun e w' => ∃ v, e = .returned (.tuple #[fileV 2 wide high v, .int .i64 0]) ∧ Own w' w.heap.size v pd ∧ Nw w w' := by
  have HCon : Hid (∀ W, Nw w W → _) := fun W k => withData_any W g q wide high pd hl (h.nw k)
  unfold fileV sIDAT at *
  obtain ⟨W1, hW1⟩ : ∃ W, w.alloc (.cells #[.int .i64 1, .int .i64 (wide), .int .i64 (high), .slice none 0 0] 46) = W := ⟨_, rfl⟩
  obtain ⟨W2, hW2⟩ : ∃ W, W1.alloc (.cells #[.string { data := #[73, 68, 65, 84] }, .slice (some ⟨g, q, none⟩) pd.length pd.length] 71) = W := ⟨_, rfl⟩
  obtain ⟨W3, hW3⟩ : ∃ W, W2.alloc (.cells #[.int .i64 0, .int .i64 0, .int .i64 0, .slice none 0 0] 46) = W := ⟨_, rfl⟩
  have z1 : W1.heap.size = w.heap.size + 1 := by rw [← hW1]; simp
  have z2 : W2.heap.size = w.heap.size + 1 + 1 := by rw [← hW2]; simp; omega
  have z3 : W3.heap.size = w.heap.size + 3 := by rw [← hW3]; simp; omega
  have n1 : Nw w W1 := by rw [← hW1]; exact (Below.refl _ _).alloc (Nat.le_refl _) _
  have n2 : Nw W1 W2 := by rw [← hW2]; exact (Below.refl _ _).alloc (Nat.le_refl _) _
  have n3 : Nw W2 W3 := by rw [← hW3]; exact (Below.refl _ _).alloc (Nat.le_refl _) _
  have FB : FAt W3 w.heap.size 1 (wide) (high) (.slice none 0 0) := by
    have h : FAt W1 w.heap.size 1 (wide) (high) (.slice none 0 0) := by rw [← hW1]; exact FAt.new _ _ _ _ _ _
    exact (h.nw n2).nw n3
  have e0 : W3.cell? ⟨w.heap.size + 1, 0, none⟩ = some (.string { data := #[73, 68, 65, 84] }) := by
    rw [(bcell n3).1 _ _ (by omega), ← z1, ← hW2]; simp
  have e1 : W3.cell? ⟨w.heap.size + 1, 1, none⟩ = some (.slice (some ⟨g, q, none⟩) pd.length pd.length) := by
    rw [(bcell n3).1 _ _ (by omega), ← z1, ← hW2]; simp
  have FR : FAt W3 (w.heap.size + 1 + 1) 0 0 0 (.slice none 0 0) := by
    rw [← z2, ← hW3]; exact FAt.new _ _ _ _ _ _
  have NW : Hid (Nw w W3) := Nw.trans n1 (Nw.trans n2 n3)
  have FR2 : Hid (FAt W3 (w.heap.size + 1 + 1) 0 0 0 (.slice none 0 0)) := FR
  have HW1 : Hid (_ = W1) := hW1
  have HW2 : Hid (_ = W2) := hW2
  have HW3 : Hid (_ = W3) := hW3
  have HZ3 : Hid _ := z3
  clear hW1 hW2 hW3 n1 n2 n3 z1 z2 FR
  obtain ⟨c0, c1, c2, c3, cf⟩ := FB
  go_enter Tryz.func49, Tryz.ntmps49
  go_upto_region 1 with fail
  rw [HW1.out, HW2.out, HW3.out]
  go_wp2_with fail
  refine Calls.mono (HCon.out W3 NW.out) ?_
  rintro e w4 ⟨vv, rfl, o4, n4⟩
  have NW4 : Hid (Nw w w4) := Nw.trans NW.out n4
  have FR4 : FAt w4 (w.heap.size + 1 + 1) 0 0 0 (.slice none 0 0) := FR2.out.nw n4
  obtain ⟨sa, sc, rfl⟩ := Own.shape o4
  obtain ⟨m, hm⟩ : ∃ m, pd.length = m := ⟨_, rfl⟩
  have O4 : Hid (Own w4 W3.heap.size (.slice sa m sc) pd) := by
    have h := o4
    rw [hm] at h
    exact h
  rw [hm]
  clear n4 o4 hm c0 c1 c2 c3 cf e0 e1
  have FR5 : Hid (FAt w4 (w.heap.size + 1 + 1) 0 0 0 (.slice none 0 0)) := FR4
  obtain ⟨d0, d1, d2, d3, df⟩ := FR4
  go_wp2
  have kk := FR5.out.store 2 (wide) (high) (.slice sa m sc)
  have kn := nw_set (u := .slice sa m sc) (o := 3) (nw_set (u := .int .i64 (high)) (o := 2) (nw_set (u := .int .i64 (wide)) (o := 1) (nw_set (u := .int .i64 2) (o := 0) NW4.out (R := w.heap.size + 1 + 1) (by omega)) (R := w.heap.size + 1 + 1) (by omega)) (R := w.heap.size + 1 + 1) (by omega)) (R := w.heap.size + 1 + 1) (by omega)
  have ko := (Own.farB (u := .slice sa m sc) (o := 3) (b := w.heap.size + 1 + 1) (Own.farB (u := .int .i64 (high)) (o := 2) (b := w.heap.size + 1 + 1) (Own.farB (u := .int .i64 (wide)) (o := 1) (b := w.heap.size + 1 + 1) (Own.farB (u := .int .i64 2) (o := 0) (b := w.heap.size + 1 + 1) O4.out (by rw [HZ3.out]; omega)) (by rw [HZ3.out]; omega)) (by rw [HZ3.out]; omega)) (by rw [HZ3.out]; omega))
  generalize (World.setCell (World.setCell (World.setCell (World.setCell w4 ⟨w.heap.size + 1 + 1, 0, none⟩ (.int .i64 2)) ⟨w.heap.size + 1 + 1, 1, none⟩ (.int .i64 (wide))) ⟨w.heap.size + 1 + 1, 2, none⟩ (.int .i64 (high))) ⟨w.heap.size + 1 + 1, 3, none⟩ (.slice sa m sc)) = X at *
  obtain ⟨k0, k1, k2, k3, kf⟩ := kk
  exact bodyPost_ret (v := .tuple #[.agg #[.int .i64 2, .int .i64 (wide), .int .i64 (high), .slice sa m sc], .int .i64 0]) (by simp [results, Tryz.results49, go_sem, k0, k1, k2, k3]) rfl ⟨_, rfl, Own.base ko (by rw [HZ3.out]; omega), kn⟩

set_option maxHeartbeats 4000000 in
theorem with_end (w : World) (g q : Nat) (wide high : Int) (a : Option Addr) (n c : Nat) :
    Calls Tryz.prog 49 #[fileV 2 wide high (.slice a n c), .agg #[.string sIEND, .slice (some ⟨g, q, none⟩) 0 0]] w fun e w' => e = .returned (.tuple #[fileV 4 wide high (.slice a n c), .int .i64 0]) ∧ Nw w w' := by
  have HCon : Hid (∀ W, Nw w W → _) := fun W k => withEnd_any W g q wide high a n c
  unfold fileV sIEND at *
  obtain ⟨W1, hW1⟩ : ∃ W, w.alloc (.cells #[.int .i64 2, .int .i64 (wide), .int .i64 (high), .slice a n c] 46) = W := ⟨_, rfl⟩
  obtain ⟨W2, hW2⟩ : ∃ W, W1.alloc (.cells #[.string { data := #[73, 69, 78, 68] }, .slice (some ⟨g, q, none⟩) 0 0] 71) = W := ⟨_, rfl⟩
  obtain ⟨W3, hW3⟩ : ∃ W, W2.alloc (.cells #[.int .i64 0, .int .i64 0, .int .i64 0, .slice none 0 0] 46) = W := ⟨_, rfl⟩
  have z1 : W1.heap.size = w.heap.size + 1 := by rw [← hW1]; simp
  have z2 : W2.heap.size = w.heap.size + 1 + 1 := by rw [← hW2]; simp; omega
  have z3 : W3.heap.size = w.heap.size + 3 := by rw [← hW3]; simp; omega
  have n1 : Nw w W1 := by rw [← hW1]; exact (Below.refl _ _).alloc (Nat.le_refl _) _
  have n2 : Nw W1 W2 := by rw [← hW2]; exact (Below.refl _ _).alloc (Nat.le_refl _) _
  have n3 : Nw W2 W3 := by rw [← hW3]; exact (Below.refl _ _).alloc (Nat.le_refl _) _
  have FB : FAt W3 w.heap.size 2 (wide) (high) (.slice a n c) := by
    have h : FAt W1 w.heap.size 2 (wide) (high) (.slice a n c) := by rw [← hW1]; exact FAt.new _ _ _ _ _ _
    exact (h.nw n2).nw n3
  have e0 : W3.cell? ⟨w.heap.size + 1, 0, none⟩ = some (.string { data := #[73, 69, 78, 68] }) := by
    rw [(bcell n3).1 _ _ (by omega), ← z1, ← hW2]; simp
  have e1 : W3.cell? ⟨w.heap.size + 1, 1, none⟩ = some (.slice (some ⟨g, q, none⟩) 0 0) := by
    rw [(bcell n3).1 _ _ (by omega), ← z1, ← hW2]; simp
  have FR : FAt W3 (w.heap.size + 1 + 1) 0 0 0 (.slice none 0 0) := by
    rw [← z2, ← hW3]; exact FAt.new _ _ _ _ _ _
  have NW : Hid (Nw w W3) := Nw.trans n1 (Nw.trans n2 n3)
  have FR2 : Hid (FAt W3 (w.heap.size + 1 + 1) 0 0 0 (.slice none 0 0)) := FR
  have HW1 : Hid (_ = W1) := hW1
  have HW2 : Hid (_ = W2) := hW2
  have HW3 : Hid (_ = W3) := hW3
  have HZ3 : Hid _ := z3
  clear hW1 hW2 hW3 n1 n2 n3 z1 z2 FR
  obtain ⟨c0, c1, c2, c3, cf⟩ := FB
  go_enter Tryz.func49, Tryz.ntmps49
  go_upto_region 1 with fail
  rw [HW1.out, HW2.out, HW3.out]
  go_wp2_with fail
  refine Calls.mono (HCon.out W3 NW.out) ?_
  rintro e w4 ⟨rfl, n4⟩
  have NW4 : Hid (Nw w w4) := Nw.trans NW.out n4
  have FR4 : FAt w4 (w.heap.size + 1 + 1) 0 0 0 (.slice none 0 0) := FR2.out.nw n4
  clear n4 c0 c1 c2 c3 cf e0 e1
  have FR5 : Hid (FAt w4 (w.heap.size + 1 + 1) 0 0 0 (.slice none 0 0)) := FR4
  obtain ⟨d0, d1, d2, d3, df⟩ := FR4
  go_wp2
  have kk := FR5.out.store 4 (wide) (high) (.slice a n c)
  have kn := nw_set (u := .slice a n c) (o := 3) (nw_set (u := .int .i64 (high)) (o := 2) (nw_set (u := .int .i64 (wide)) (o := 1) (nw_set (u := .int .i64 4) (o := 0) NW4.out (R := w.heap.size + 1 + 1) (by omega)) (R := w.heap.size + 1 + 1) (by omega)) (R := w.heap.size + 1 + 1) (by omega)) (R := w.heap.size + 1 + 1) (by omega)
  generalize (World.setCell (World.setCell (World.setCell (World.setCell w4 ⟨w.heap.size + 1 + 1, 0, none⟩ (.int .i64 4)) ⟨w.heap.size + 1 + 1, 1, none⟩ (.int .i64 (wide))) ⟨w.heap.size + 1 + 1, 2, none⟩ (.int .i64 (high))) ⟨w.heap.size + 1 + 1, 3, none⟩ (.slice a n c)) = X at *
  obtain ⟨k0, k1, k2, k3, kf⟩ := kk
  exact bodyPost_ret (v := .tuple #[.agg #[.int .i64 4, .int .i64 (wide), .int .i64 (high), .slice a n c], .int .i64 0]) (by simp [results, Tryz.results49, go_sem, k0, k1, k2, k3]) rfl ⟨rfl, kn⟩
end Go.Proofs.YtaeicgfebeliiaaGreatDoor
