/-
  What the program's packRows and EncodePng answer; each theorem names its conditions.
-/
import Derived.Test.YteehoihkbcbbgaaDoorEncR
import Derived.Test.YteehoihkbcbbgaaDoorPBest
namespace Go.Proofs.YteehoihkbcbbgaaDoor
open Go.ChangeShapes Go.WideShapes Go.ChangeAt Go.RowKit
set_option linter.unusedVariables false

/-- The data of a picture's rows: two bytes, what is packed, the sum. -/
def pdata (ds : List Nat) (J : Nat) : List Int := [120, 1] ++ ints (bestL ds J) ++ four (adler (ints ds))
theorem bestL_len (ds : List Nat) (J : Nat) (hJ : Ends (ints ds) J) (hl : ds.length ≤ 6000) : (bestL ds J).length ≤ 100000 ∧ 0 < (bestL ds J).length := by
  have a := outB_len (ints ds) J hJ (by rw [ints_len]; exact hl)
  have b := stored_len ds
  have c := outB_pos (ints ds) J
  unfold bestL; split <;> omega
theorem ints_u8 (ds : List Nat) (h : ∀ d ∈ ds, d < 256) : ∀ z ∈ ints ds, 0 ≤ z ∧ z ≤ 255 := by
  intro z hz
  simp [ints] at hz
  obtain ⟨d, hd, rfl⟩ := hz
  have := h d hd
  omega
set_option maxHeartbeats 4000000 in
theorem ipackRows (W : World) (b c : Nat) (ds : List Nat) (J : Nat) (hJ : Ends (ints ds) J) (ht : Tabs W) (hl : ds.length ≤ 6000) (h8 : ∀ d ∈ ds, d < 256) (ha : At W b (ints ds)) :
    Calls Tryd.prog 39 #[.slice (some ⟨b, 0, none⟩) ds.length c] W fun e w' => ∃ v, e = .returned v ∧ Nw W w' ∧ Own w' W.heap.size v (pdata ds J) := by
  have HP : Hid _ := ibest W b c ds J hJ ht hl h8 ha
  have HA : Hid (∀ w', At w' b (ints ds) → Calls Tryd.prog 69 #[.slice (some ⟨b, 0, none⟩) ds.length c] w' fun e w2 => e = .returned (.int .u32 (adler (ints ds))) ∧ w2 = w') := by
    intro w' h
    have := iadler w' (some ⟨b, 0, none⟩) c (ints ds) h.row (by rw [ints_len]; omega) (ints_u8 ds h8)
    rwa [ints_len] at this
  have hbl := bestL_len ds J hJ hl
  have hab := adler_bd (ints ds)
  have HD : Hid (pdata ds J = [120, 1] ++ ints (bestL ds J) ++ four (adler (ints ds))) := rfl
  have HB : Hid (At W b (ints ds)) := ha
  have HLn : Hid ((ints (bestL ds J)).length = (bestL ds J).length) := ints_len _
  clear hJ ht h8 ha
  generalize adler (ints ds) = ad at *
  generalize bestL ds J = P at *
  go_enter Tryd.func39, Tryd.ntmps39
  go_wp2_with fail
  refine Calls.mono HP.out ?_
  rintro e w1 ⟨g, c1, rfl, h1, h2, h3⟩
  have N1 : Hid (Nw W w1) := h1
  have L1 : Hid (Lie (w1.alloc (.cells #[.int .u8 120, .int .u8 1] 5)) g 0 (ints P)) := Lie.nw (At.lie h3) (nw_alloc _ _)
  have A1 : Hid (At (w1.alloc (.cells #[.int .u8 120, .int .u8 1] 5)) b (ints ds)) := At.nw (At.nw HB.out h1) (nw_alloc _ _)
  have O1 : Hid (Own (w1.alloc (.cells #[.int .u8 120, .int .u8 1] 5)) w1.heap.size (.slice (some ⟨w1.heap.size, 0, none⟩) 2 2) [120, 1]) := Own.lit w1 _ _ 2 _ rfl rfl (Nat.le_refl _) (by omega)
  have hs1 : W.heap.size ≤ w1.heap.size := Below.size h1
  have hbW : b < W.heap.size := HB.out.1
  have hg1 : g < w1.heap.size := h3.1
  clear h1 h2 h3 HP HB
  go_wp2_with (first
    | (at_builtin; (refine wp_app _ rfl _ _ rfl w1.heap.size _ [120, 1] (ints P) rfl O1.out g 0 P.length c1 rfl HLn.out L1.out ?c1 ?c2 ?_))
    | go_in)
  case c1 => simp; omega
  case c2 => simp
  intro v2 w2 h1 h2
  have O2 : Hid (Own w2 w1.heap.size v2 ([120, 1] ++ ints P)) := h1
  have B2 : Hid (Below w1.heap.size (w1.alloc (.cells #[.int .u8 120, .int .u8 1] 5)) w2) := Ext.below h2 (fun q hq => (Own.lt O1.out q hq).1) (by simp)
  have N2 : Hid (Nw W w2) := Nw.trans N1.out (Below.trans ((Below.refl _ _).alloc (Nat.le_refl _) _) B2.out)
  have A2 : Hid (At w2 b (ints ds)) := by
    have hA := A1.out
    exact ⟨Nat.lt_of_lt_of_le hA.1 (Below.size B2.out), fun i hi => (B2.out.cell (p := ⟨b, 0 + i, none⟩) (by show b < _; omega)).trans (hA.2.1 i hi), fun o => (B2.out.frozen (p := ⟨b, o, none⟩) (by show b < _; omega)).trans (hA.2.2 o)⟩
  have hs2 : w1.heap.size ≤ w2.heap.size := by have := Below.size B2.out; simp at this; omega
  have HL2 : Hid (([120, 1] ++ ints P).length ≤ 200000) := by show _ ≤ _; simp [HLn.out]; omega
  clear h1 h2 O1 L1 A1 N1 B2
  generalize hz2 : [120, 1] ++ ints P = z2 at *
  have HZ2 : Hid _ := hz2
  clear hz2
  have HN : Hid _ := iappNum w2 w1.heap.size v2 z2 ad hab (by have := HL2.out; omega) hs2 O2.out
  go_wp2_with fail
  refine Calls.mono (HA.out _ A2.out) ?_
  rintro e w2 ⟨rfl, rfl⟩
  go_wp2_with fail
  refine Calls.mono HN.out ?_
  rintro e w3 ⟨v3, rfl, h1, h2⟩
  have HR : Hid (Nw W w3 ∧ Own w3 W.heap.size v3 (pdata ds J)) := by
    refine ⟨Below.trans N2.out (Ext.below h2 (fun q hq => Nat.le_trans hs1 (Own.lt O2.out q hq).1) (by omega)), ?_⟩
    rw [HD.out]
    exact Own.base h1 hs1
  clear h1 h2
  go_wp2
  go_ret
  exact ⟨_, rfl, HR.out⟩

def sIHDR : ByteArray := { data := #[73, 72, 68, 82] }
def sIDAT : ByteArray := { data := #[73, 68, 65, 84] }
def sIEND : ByteArray := { data := #[73, 69, 78, 68] }
def mark8 : List Int := [137, 80, 78, 71, 13, 10, 26, 10]
def head13 (wide high : Nat) : List Int := four (wide : Int) ++ four (high : Int) ++ [8, 6, 0, 0, 0]
def png (wide high : Nat) (pd : List Int) : List Int := mark8 ++ chunk (strInts sIHDR) (head13 wide high) ++ chunk (strInts sIDAT) pd ++ chunk (strInts sIEND) []
theorem pdata_u8 (ds : List Nat) (J : Nat) (h : ∀ d ∈ bestL ds J, d < 256) : ∀ z ∈ pdata ds J, 0 ≤ z ∧ z ≤ 255 := by
  intro z hz
  simp only [pdata, List.mem_append] at hz
  rcases hz with (hz | hz) | hz
  · simp at hz; omega
  · exact ints_u8 _ h z hz
  · exact four_u8 _ (adler_bd _) z hz
theorem head_u8 (wide high : Nat) (hw : wide ≤ 36) (hh : high ≤ 36) : ∀ z ∈ head13 wide high, 0 ≤ z ∧ z ≤ 255 := by
  intro z hz
  simp only [head13, List.mem_append] at hz
  rcases hz with (hz | hz) | hz
  · exact four_u8 _ (by omega) z hz
  · exact four_u8 _ (by omega) z hz
  · simp at hz; omega
theorem head_len (wide high : Nat) : (head13 wide high).length = 13 := rfl
end Go.Proofs.YteehoihkbcbbgaaDoor
