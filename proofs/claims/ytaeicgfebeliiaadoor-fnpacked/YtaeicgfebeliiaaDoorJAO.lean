/-
  Packing and unpacking of data that may be no list; data as texts; the law's draw; each theorem names its conditions.
  The walk of the law FnPacked; each theorem names its conditions.
-/
import Derived.Test.YtaeicgfebeliiaaDoorJAM
import Derived.Test.YtaeicgfebeliiaaDoorJAN
import Derived.Lib.SlBytesRow
import Derived.Lib.BufferRead
namespace Go.Proofs.YtaeicgfebeliiaaDoor
open Go.ChangeShapes Go.WideShapes Go.ChangeAt Go.RowKit
set_option linter.unusedVariables false

theorem ints_nil {ds : List Nat} (h : ints ds = []) : ds = [] := by
  have := congrArg List.length h
  rw [ints_len] at this
  exact List.eq_nil_of_length_eq_zero (by simpa using this)
theorem at_nat {w : World} {g : Nat} {ds : List Nat} (h : At w g (ints ds)) : ∀ i, i < ds.length → w.cell? ⟨g, i, none⟩ = some (.int .u8 ((ds.getD i 0 : Nat) : Int)) := fun i hi => by
  have := cells_nat h i hi
  rwa [Nat.zero_add] at this
theorem own_ways {W : World} {B : Nat} {v : Value} {ds : List Nat} (h : Own W B v (ints ds)) : (v = .slice none 0 0 ∧ ds = []) ∨ ∃ g c, v = .slice (some ⟨g, 0, none⟩) ds.length c ∧ At W g (ints ds) := by
  rcases h.form with ⟨e, h0⟩ | ⟨g, c, e, _, _, hA⟩
  · exact Or.inl ⟨e, ints_nil h0⟩
  · rw [ints_len] at e
    exact Or.inr ⟨g, c, e, hA⟩
theorem ibest_own (W : World) (B : Nat) (v : Value) (ds : List Nat) (J : Nat) (hJ : Ends (ints ds) J) (ht : Tabs W) (hl : ds.length ≤ 6000) (h8 : ∀ d ∈ ds, d < 256) (ho : Own W B v (ints ds)) :
    Calls Tryd.prog 6 #[v] W fun e w' => ∃ g c, e = .returned (.tuple #[.slice (some ⟨g, 0, none⟩) (bestL ds J).length c, .bool true]) ∧ Made W w' g (ints (bestL ds J)) := by
  have h4 : 4 ≤ W.heap.size := ht.2.2.2.2
  rcases own_ways ho with ⟨rfl, rfl⟩ | ⟨g, c, rfl, hA⟩
  · exact ibestA W none 0 0 [] J hJ ht hl h8 (by omega) (fun i hi => absurd hi (Nat.not_lt_zero _)) (Or.inl rfl)
  · exact ibestA W (some ⟨g, 0, none⟩) g c ds J hJ ht hl h8 hA.1 (cells_nat hA) (Or.inr rfl)
theorem sbest_own (W : World) (B : Nat) (v : Value) (ds : List Nat) (J : Nat) (hJ : Ends (ints ds) J) (h0 : 0 < W.heap.size) (hl : ds.length ≤ 6000) (h8 : ∀ d ∈ ds, d < 256) (ho : Own W B v (ints ds)) :
    Calls Tryd.prog 7 #[v] W fun e w' => ∃ g c, e = .returned (.tuple #[.slice (some ⟨g, 0, none⟩) (bestL ds J).length c, .bool true]) ∧ Made W w' g (ints (bestL ds J)) := by
  rcases own_ways ho with ⟨rfl, rfl⟩ | ⟨g, c, rfl, hA⟩
  · exact sbest0 W 0 J hJ h0
  · exact sbest W g c ds J hJ hl h8 hA
theorem istored_own (W : World) (B : Nat) (v : Value) (ds : List Nat) (h0 : 0 < W.heap.size) (hl : ds.length ≤ 6000) (h8 : ∀ d ∈ ds, d < 256) (ho : Own W B v (ints ds)) :
    Calls Tryd.prog 8 #[v] W fun e w' => ∃ g c, e = .returned (.tuple #[.slice (some ⟨g, 0, none⟩) (stored ds).length c, .bool true]) ∧ Made W w' g (ints (stored ds)) := by
  have h : Calls Tryd.prog 8 #[v] W fun e w' => ∃ g c, e = .returned (.tuple #[.slice (some ⟨g, 0, none⟩) (stored ds).length c, .bool true]) ∧ Gave W w' g (stored ds) c := by
    rcases own_ways ho with ⟨rfl, rfl⟩ | ⟨g, c, rfl, hA⟩
    · exact istoredA W none 0 0 [] hl h8 h0 (fun i hi => absurd hi (Nat.not_lt_zero _)) (Or.inl rfl)
    · exact istored W g c ds hl h8 hA.1 (cells_nat hA)
  refine Calls.mono h ?_
  rintro e w' ⟨g, c, rfl, hg⟩
  exact ⟨g, c, rfl, hg.1, hg.2.1, At.gave hg⟩
theorem ifixed_own (W : World) (B : Nat) (v : Value) (ds : List Nat) (J : Nat) (hJ : Ends (ints ds) J) (ht : Tabs W) (hl : ds.length ≤ 6000) (h8 : ∀ d ∈ ds, d < 256) (ho : Own W B v (ints ds)) :
    Calls Tryd.prog 9 #[v] W fun e w' => ∃ g c, e = .returned (.tuple #[.slice (some ⟨g, 0, none⟩) (outB (ints ds) J).length c, .bool true]) ∧ Made W w' g (ints (outB (ints ds) J)) := by
  have h4 : 4 ≤ W.heap.size := ht.2.2.2.2
  have h : Calls Tryd.prog 9 #[v] W fun e w' => ∃ g c, e = .returned (.tuple #[.slice (some ⟨g, 0, none⟩) (outB (ints ds) J).length c, .bool true]) ∧ Gave W w' g (outB (ints ds) J) c := by
    rcases own_ways ho with ⟨rfl, rfl⟩ | ⟨g, c, rfl, hA⟩
    · exact ifixA W none 0 0 (ints []) J hJ ht hl (ints_bd [] h8) (by omega) (fun i hi => absurd hi (Nat.not_lt_zero _)) (Or.inl rfl)
    · have h := ifix W g c (ints ds) J hJ ht (by rw [ints_len]; exact hl) (ints_bd ds h8) hA.1 hA.2.1
      rw [ints_len] at h
      exact h
  refine Calls.mono h ?_
  rintro e w' ⟨g, c, rfl, hg⟩
  exact ⟨g, c, rfl, hg.1, hg.2.1, At.gave hg⟩
/-- What an unpacking answers. -/
def Unp (w : World) (n : Nat) (zs : List Int) (e : Ending) (w' : World) : Prop := ∃ v, e = .returned (.tuple #[v, .int .i64 (n : Int), .int .i64 0]) ∧ Own w' w.heap.size v zs ∧ Nw w w'
theorem unpackS (W : World) (g c : Nat) (xs : List Nat) (hl : xs.length ≤ 6000) (h8 : ∀ d ∈ xs, d < 256) (hA : At W g (ints (stored xs))) :
    Calls Tryd.prog 10 #[.slice (some ⟨g, 0, none⟩) (stored xs).length c] W (Unp W (stored xs).length (ints xs)) := by
  have hsl := stored_len xs
  exact unpack_of W g c (stored xs) (ints xs) (8 * (stored xs).length) (by omega) (Nat.le_refl _) (by omega) hA.1 (at_nat hA) (fun w1 n s => blockStored_any w1 W.heap.size g c xs hl h8 s (Nat.lt_of_lt_of_le hA.1 (Below.size n)))
theorem unpackF (W : World) (g c : Nat) (ds : List Nat) (J : Nat) (hJ : Ends (ints ds) J) (ht : Tabs W) (hl : ds.length ≤ 6000) (h8 : ∀ d ∈ ds, d < 256) (hA : At W g (ints (outB (ints ds) J))) :
    Calls Tryd.prog 10 #[.slice (some ⟨g, 0, none⟩) (outB (ints ds) J).length c] W (Unp W (outB (ints ds) J).length (ints ds)) := by
  have hk := bks_out (ints ds) J
  have hb := acc_bd (ints ds) J hJ J (Nat.le_refl _)
  have hj := hJ.1
  have hll := ints_len ds
  have hlen := hk.len
  have hr := hk.room
  have h4 : 4 ≤ W.heap.size := ht.2.2.2.2
  exact unpack_of W g c (outB (ints ds) J) (ints ds) ((acc (ints ds) J).length + 7) (by omega) (by omega) (by omega) hA.1 (at_nat hA) (fun w1 n s => blockFixed_any w1 W.heap.size g c (outB (ints ds) J) (ints ds) J hJ (by omega) (ints_bd ds h8) hk (by omega) (ht.below n h4) h4 s (Nat.lt_of_lt_of_le hA.1 (Below.size n)))
theorem unpackB (W : World) (g c : Nat) (ds : List Nat) (J : Nat) (hJ : Ends (ints ds) J) (ht : Tabs W) (hl : ds.length ≤ 6000) (h8 : ∀ d ∈ ds, d < 256) (hA : At W g (ints (bestL ds J))) :
    Calls Tryd.prog 10 #[.slice (some ⟨g, 0, none⟩) (bestL ds J).length c] W (Unp W (bestL ds J).length (ints ds)) := by
  unfold bestL at hA ⊢
  split
  · next h => rw [if_pos h] at hA; exact unpackF W g c ds J hJ ht hl h8 hA
  · next h => rw [if_neg h] at hA; exact unpackS W g c ds hl h8 hA
/-- Data as a text. -/
def strOf (ds : List Nat) : ByteArray := ⟨(ds.map UInt8.ofNat).toArray⟩
theorem strOf_size (ds : List Nat) : (strOf ds).size = ds.length := by show (ds.map UInt8.ofNat).toArray.size = _; simp
theorem conv_at (w : World) (g c : Nat) (ds : List Nat) (h8 : ∀ d ∈ ds, d < 256) (hA : At w g (ints ds)) : (convert 22 9 (.slice (some ⟨g, 0, none⟩) ds.length c)).run Tryd.prog w = .ok (.string (strOf ds)) w := by
  have hu : Tryd.prog.underlying 9 = some .string := Tryd.underlying9
  have hb : Tryd.prog.underlying 5 = some (.int .u8) := Tryd.underlying5
  have h := Lib.run_convert_whole (P := Tryd.prog) w _ _ _ Tryd.underlying22 hb hu g 0 (strOf ds) (fun i hi => by
    rw [strOf_size] at hi
    rw [Nat.zero_add, at_nat hA i hi]
    have hd : ds[i] < 256 := h8 _ (List.getElem_mem _)
    have e : ds.getD i 0 = ds[i] := by simp [hi]
    have e2 : ((strOf ds)[i]'(by rw [strOf_size]; exact hi)).toNat = ds[i] := by
      show ((ds.map UInt8.ofNat).toArray[i]'(by simpa using hi)).toNat = _
      simp; omega
    rw [e]
    first | rw [e2] | (simp [e2])) c
  rw [strOf_size] at h
  exact h
theorem conv_own (w : World) (B : Nat) (v : Value) (ds : List Nat) (h8 : ∀ d ∈ ds, d < 256) (ho : Own w B v (ints ds)) : (convert 22 9 v).run Tryd.prog w = .ok (.string (strOf ds)) w := by
  rcases own_ways ho with ⟨rfl, rfl⟩ | ⟨g, c, rfl, hA⟩
  · have hu : Tryd.prog.underlying 9 = some .string := Tryd.underlying9
    have hb : Tryd.prog.underlying 5 = some (.int .u8) := Tryd.underlying5
    exact Lib.run_convert_nil_bytes w _ _ _ 0 Tryd.underlying22 hb hu
  · exact conv_at w g c ds h8 hA
theorem drawStored_any (w : World) (ca : Option Addr) (len cap : Nat) (hl : len ≤ 9223372036854775807) (hd : Code w w.heap.size ca len) :
    Calls Tryd.prog 17 #[.slice ca len cap] w fun e w' => ∃ v zs, e = .returned v ∧ Own w' w.heap.size v zs ∧ zs.length ≤ 10000 ∧ Byts zs ∧ Nw w w' := by
  obtain ⟨W, hW⟩ : ∃ W, w.alloc (.cells #[.slice ca len cap, .int .i64 0, .int .u64 0] 72) = W := ⟨_, rfl⟩
  have NW : Hid (Nw w W) := by show Nw _ _; rw [← hW]; exact (Below.refl _ _).alloc (Nat.le_refl _) _
  have C0 : Hid (Cur W w.heap.size ca len cap 0) := by
    show Cur _ _ _ _ _ _
    rw [← hW]
    exact ⟨0, 0, by omega, by omega, by omega, by simp, by simp, by simp, fun o => World.frozen?_alloc_at _ _ _ _ rfl, by simp⟩
  have D0 : Hid (Code W w.heap.size ca len) := Code.below hd NW.out
  have HW : Hid (_ = W) := hW
  clear hW hd
  go_enter Tryd.func17, Tryd.ntmps17
  go_wp2_with fail
  rw [HW.out]
  refine (data_any W w.heap.size ca len cap 0 hl (by omega) C0.out D0.out).mono ?_
  rintro e w1 ⟨v, zs, rfl, h1, h2, h3, h4⟩
  have O1 : Hid (Own w1 w.heap.size v zs) := Own.base h1 (Below.size NW.out)
  have B1 : Hid (Byts zs) := h3
  have N1 : Hid (Nw w w1) := Below.trans NW.out (h4.below (Below.size NW.out))
  obtain ⟨sa, sc, rfl⟩ := h1.shape
  clear h1 h3 h4
  go_wp2
  go_ret
  exact ⟨_, zs, rfl, O1.out, h2, B1.out, N1.out⟩
theorem drawBest_any (w : World) (ca : Option Addr) (len cap : Nat) (hl : len ≤ 9223372036854775807) (hd : Code w w.heap.size ca len) :
    Calls Tryd.prog 5 #[.slice ca len cap] w fun e w' => ∃ v zs, e = .returned v ∧ Own w' w.heap.size v zs ∧ zs.length ≤ 10000 ∧ Byts zs ∧ Nw w w' := by
  have H : Hid _ := drawStored_any w ca len cap hl hd
  clear hd
  go_enter Tryd.func5, Tryd.ntmps5
  go_wp2_with fail
  refine Calls.mono H.out ?_
  rintro e w1 ⟨v, zs, rfl, h1, h2, h3, h4⟩
  have O1 : Hid (Own w1 w.heap.size v zs) := h1
  have B1 : Hid (Byts zs) := h3
  have N1 : Hid (Nw w w1) := h4
  obtain ⟨sa, sc, rfl⟩ := h1.shape
  clear h1 h3 h4
  go_wp2
  go_ret
  exact ⟨_, zs, rfl, O1.out, h2, B1.out, N1.out⟩
end Go.Proofs.YtaeicgfebeliiaaDoor
namespace Go.Proofs.YtaeicgfebeliiaaDoor
open Go.ChangeShapes Go.WideShapes Go.ChangeAt Go.RowKit
set_option linter.unusedVariables false

theorem Made.lt {w w' : World} {g : Nat} {cs : List Int} (h : Made w w' g cs) : w.heap.size ≤ g := h.2.1
theorem best_le (ds : List Nat) (J : Nat) : (bestL ds J).length ≤ (stored ds).length ∧ (bestL ds J).length ≤ (outB (ints ds) J).length := by
  have hs := stored_len ds
  unfold bestL
  split <;> omega
theorem best_8 (ds : List Nat) (J : Nat) (h8 : ∀ d ∈ ds, d < 256) (hl : ds.length ≤ 6000) : ∀ d ∈ bestL ds J, d < 256 := by
  unfold bestL
  split
  · exact (bks_out (ints ds) J).h8
  · exact (stored_reads ds hl h8).2.2.2.2.2
set_option maxRecDepth 100000 in
set_option maxHeartbeats 8000000 in
theorem walk_packed (w0 : World) (a0 : Option Addr) (len0 cap0 : Nat) (ml : len0 ≤ 9223372036854775807) (hT : Tabs w0) (hd : Code w0 w0.heap.size a0 len0) :
    Calls Tryd.prog 3 #[.slice a0 len0 cap0] w0 fun e w' => e = .returned (.bool true) ∧ Below w0.heap.size w0 w' := by
  by_cases hbig : 1048576 < len0
  · have dm : decide ((1048576 : Int) < (len0 : Int)) = true := by simp; omega
    clear hT hd
    go_enter Tryd.func3, Tryd.ntmps3
    go_wp2
    go_ret
    exact ⟨rfl, Below.refl _ _⟩
  have dm : decide ((1048576 : Int) < (len0 : Int)) = false := by simp; omega
  have HDr : Hid _ := drawBest_any w0 a0 len0 cap0 ml hd
  have h40 : 4 ≤ w0.heap.size := hT.2.2.2.2
  have HT0 : Hid (∀ w', Below w0.heap.size w0 w' → Tabs w') := fun w' n => hT.below n h40
  have hnilc := fun w1 => Lib.run_convert_nil_bytes (P := Tryd.prog) w1 22 9 5 0 Tryd.underlying22 Tryd.underlying5 Tryd.underlying9
  have HNilc : Hid _ := hnilc
  clear hT hd hnilc
  go_enter Tryd.func3, Tryd.ntmps3
  go_wp2_with fail
  refine Calls.mono HDr.out ?_
  rintro e w ⟨v, zs, rfl, ho, hzl, hby, hnw⟩
  have HW0 : Hid (Below w0.heap.size w0 w) := hnw
  obtain ⟨W, hWW⟩ : ∃ W, w0.heap.size = W := ⟨_, rfl⟩
  obtain ⟨ds, rfl, h8⟩ := nats_of zs hby
  obtain ⟨J, hJ⟩ := ends (ints ds)
  rw [ints_len] at hzl
  obtain ⟨sa, sc, rfl⟩ := ho.shape
  rw [ints_len] at ho
  rw [ints_len]
  have h4 : 4 ≤ w.heap.size := Nat.le_trans h40 (Below.size hnw)
  have ho0 : Own w w0.heap.size (.slice sa ds.length sc) (ints ds) := ho
  rw [hWW] at ho0
  clear ho hby hnw HDr
  by_cases hl : ds.length ≤ 6000
  · have ho := ho0
    have HO : Hid (Own w W (.slice sa ds.length sc) (ints ds)) := ho
    have HT : Hid (∀ w', Nw w w' → Tabs w') := fun w' n => (HT0.out w HW0.out).below n h4
    have C1 : Hid (∀ w', Nw w w' → _) := fun w' n => ibest_own w' W (.slice sa ds.length sc) ds J hJ (HT.out w' n) hl h8 (Own.nw ho n)
    have C2 : Hid (∀ w', Nw w w' → _) := fun w' n => sbest_own w' W (.slice sa ds.length sc) ds J hJ (by have := Below.size n; omega) hl h8 (Own.nw ho n)
    have C3 : Hid (∀ w', Nw w w' → _) := fun w' n => istored_own w' W (.slice sa ds.length sc) ds (by have := Below.size n; omega) hl h8 (Own.nw ho n)
    have C4 : Hid (∀ w', Nw w w' → _) := fun w' n => ifixed_own w' W (.slice sa ds.length sc) ds J hJ (HT.out w' n) hl h8 (Own.nw ho n)
    have U1 : Hid (∀ w' g c, Nw w w' → At w' g (ints (bestL ds J)) → _) := fun w' g c n a => unpackB w' g c ds J hJ (HT.out w' n) hl h8 a
    have U2 : Hid (∀ w' g c, Nw w w' → At w' g (ints (stored ds)) → _) := fun w' g c n a => unpackS w' g c ds hl h8 a
    have U3 : Hid (∀ w' g c, Nw w w' → At w' g (ints (outB (ints ds) J)) → _) := fun w' g c n a => unpackF w' g c ds J hJ (HT.out w' n) hl h8 a
    have V1 : Hid (∀ w' g c, At w' g (ints (bestL ds J)) → _) := fun w' g c a => conv_at w' g c (bestL ds J) (best_8 ds J h8 hl) a
    have V2 : Hid (∀ w' B v, Own w' B v (ints ds) → _) := fun w' B v a => conv_own w' B v ds h8 a
    obtain ⟨l1, l2⟩ := best_le ds J
    have hnb : (stored ds).length ≤ 100000 ∧ (outB (ints ds) J).length ≤ 100000 := ⟨by rw [stored_len]; omega, outB_len (ints ds) J hJ (by rw [ints_len]; exact hl)⟩
    obtain ⟨nb, hn1⟩ : ∃ n, (bestL ds J).length = n := ⟨_, rfl⟩
    obtain ⟨ns, hn2⟩ : ∃ n, (stored ds).length = n := ⟨_, rfl⟩
    obtain ⟨nf, hn3⟩ : ∃ n, (outB (ints ds) J).length = n := ⟨_, rfl⟩
    obtain ⟨sd, hsd⟩ : ∃ s, strOf ds = s := ⟨_, rfl⟩
    obtain ⟨sb, hsb⟩ : ∃ s, strOf (bestL ds J) = s := ⟨_, rfl⟩
    rw [hn1, hn2] at l1
    rw [hn1, hn3] at l2
    rw [hn2, hn3] at hnb
    rw [hn1] at C1 C2 U1 V1
    rw [hn2] at C3 U2
    rw [hn3] at C4 U3
    rw [hsb] at V1
    rw [hsd] at V2
    generalize bestL ds J = LB1 at *
    generalize stored ds = LS1 at *
    generalize outB (ints ds) J = LF1 at *
    clear ho ho0 hJ h8 hn1 hn2 hn3 hsd hsb h4
    have N0 : Hid (Nw w w) := Below.refl _ _
    go_wp2_with fail
    refine Calls.mono (C1.out _ N0.out) ?_
    rintro e w2 ⟨g1, c1, rfl, k1, k2, k3⟩
    have N2 : Hid (Nw w w2) := k1
    have A2 : Hid (At w2 g1 (ints LB1)) := k3
    clear k1 k2 k3
    go_wp2_with fail
    refine Calls.mono (C2.out _ N2.out) ?_
    rintro e w3 ⟨g2, c2, rfl, k1, k2, k3⟩
    have N3 : Hid (Nw w w3) := Nw.trans N2.out k1
    have A3 : Hid (At w3 g1 (ints LB1)) := At.nw A2.out k1
    have v1 := V1.out w3 g1 c1 A3.out
    have v2 := V1.out w3 g2 c2 k3
    clear k1 k2 k3 A2 N2
    go_wp2_with fail
    refine Calls.mono (C3.out _ N3.out) ?_
    rintro e w4 ⟨g3, c3, rfl, k1, k2, k3⟩
    have N4 : Hid (Nw w w4) := Nw.trans N3.out k1
    have A4 : Hid (At w4 g1 (ints LB1)) := At.nw A3.out k1
    have S4 : Hid (At w4 g3 (ints LS1)) := k3
    clear k1 k2 k3 A3 N3 v1 v2
    go_wp2_with fail
    refine Calls.mono (C4.out _ N4.out) ?_
    rintro e w5 ⟨g4, c4, rfl, k1, k2, k3⟩
    have N5 : Hid (Nw w w5) := Nw.trans N4.out k1
    have A5 : Hid (At w5 g1 (ints LB1)) := At.nw A4.out k1
    have S5 : Hid (At w5 g3 (ints LS1)) := At.nw S4.out k1
    have F5 : Hid (At w5 g4 (ints LF1)) := k3
    clear k1 k2 k3 A4 S4 N4
    obtain ⟨W6, hW6⟩ : ∃ W, w5.alloc (.cells #[.slice (some ⟨g1, 0, none⟩) nb c1, .slice (some ⟨g3, 0, none⟩) ns c3, .slice (some ⟨g4, 0, none⟩) nf c4] 22) = W := ⟨_, rfl⟩
    have N56 : Nw w5 W6 := by rw [← hW6]; exact (Below.refl _ _).alloc (Nat.le_refl _) _
    have N6 : Hid (Nw w W6) := Nw.trans N5.out N56
    have hc0 : W6.cell? ⟨w5.heap.size, 0, none⟩ = some (.slice (some ⟨g1, 0, none⟩) nb c1) := by rw [← hW6]; simp
    have hc1 : W6.cell? ⟨w5.heap.size, 1, none⟩ = some (.slice (some ⟨g3, 0, none⟩) ns c3) := by rw [← hW6]; simp
    have hc2 : W6.cell? ⟨w5.heap.size, 2, none⟩ = some (.slice (some ⟨g4, 0, none⟩) nf c4) := by rw [← hW6]; simp
    have hL6 : w5.heap.size < W6.heap.size := by rw [← hW6]; simp
    have HU : Hid (∀ wr, Nw W6 wr → ∀ k, k < 3 → ∃ g n c, wr.cell? ⟨w5.heap.size, k, none⟩ = some (.slice (some ⟨g, 0, none⟩) n c) ∧ n ≤ 100000 ∧ Calls Tryd.prog 10 #[.slice (some ⟨g, 0, none⟩) n c] wr (Unp wr n (ints ds))) := by
      intro wr n k hk
      have nn := Nw.trans N6.out n
      have n5 := Nw.trans N56 n
      have hcell := fun o => (bcell n).1 w5.heap.size o hL6
      rcases (show k = 0 ∨ k = 1 ∨ k = 2 by omega) with rfl | rfl | rfl
      · exact ⟨g1, nb, c1, (hcell 0).trans hc0, by omega, U1.out wr g1 c1 nn (At.nw A5.out n5)⟩
      · exact ⟨g3, ns, c3, (hcell 1).trans hc1, by omega, U2.out wr g3 c3 nn (At.nw S5.out n5)⟩
      · exact ⟨g4, nf, c4, (hcell 2).trans hc2, by omega, U3.out wr g4 c4 nn (At.nw F5.out n5)⟩
    have HW6 : Hid (_ = W6) := hW6
    have z1 : decide (ns < nb) = false := by simp; omega
    have z2 : decide (nf < nb) = false := by simp; omega
    have z3 : decide ((ns : Int) < (nb : Int)) = false := by simp; omega
    have z4 : decide ((nf : Int) < (nb : Int)) = false := by simp; omega
    clear hW6 hc0 hc1 hc2 hL6 N56 A5 S5 F5 N5 l1 l2 hnb
    go_wp2
    rw [HW6.out]
    go_loopw [79] (fun i wr => ∃ k : Nat, k ≤ 3 ∧ i = .int .i64 (k : Int) ∧ Nw W6 wr) (fun i _ => 3 - (intOf i).toNat)
    case atStart => exact ⟨0, by omega, rfl, Below.refl _ _⟩
    case round =>
      obtain ⟨k, hk, rfl, hn⟩ := hrel
      have HN : Hid (Nw W6 wr) := hn
      clear hn
      by_cases hlt : k < 3
      · obtain ⟨g, n, c, hc, hnn, hC⟩ := HU.out wr HN.out k hlt
        have HC : Hid _ := hC
        have k3 : (k : Int) < 3 := by omega
        clear hC
        go_wp2_with fail
        refine Calls.mono HC.out ?_
        rintro e w7 ⟨x, rfl, o7, n7⟩
        have hx := V2.out w7 _ x o7
        have hd := V2.out w7 W _ (Own.nw HO.out (Nw.trans N6.out (Nw.trans HN.out n7)))
        have N7 : Hid (Nw W6 w7) := Nw.trans HN.out n7
        obtain ⟨xa, xc, rfl⟩ := o7.shape
        rw [ints_len] at hx
        rw [ints_len]
        have hnz : ((n : Int) != (n : Int)) = false := by simp
        clear o7 n7 hc HC
        go_wp2
        go_roundw
        case rel => exact ⟨k + 1, by omega, by go_num, N7.out⟩
        case measure => simp [intOf]; omega
      · have e : k = 3 := by omega
        subst e
        go_wp2
        go_ret
        exact ⟨rfl, Below.trans HW0.out (Below.mono (Nw.trans N6.out HN.out) (Below.size HW0.out))⟩
  · have I1 : Hid _ := ibest_no w sa ds.length sc (by omega) (by omega)
    have I2 : Hid _ := sbest_no w sa ds.length sc (by omega) (by omega)
    have v1 := HNilc.out w
    clear ho0 hJ h8
    go_wp2_with fail
    refine Calls.mono I1.out ?_
    rintro e w2 ⟨rfl, rfl⟩
    go_wp2_with fail
    refine Calls.mono I2.out ?_
    rintro e w3 ⟨rfl, rfl⟩
    go_wp2
    go_ret
    exact ⟨rfl, HW0.out⟩
end Go.Proofs.YtaeicgfebeliiaaDoor
