/-
  What the specification's l2Stored and PackStoredOf answer, and both functions where there is too much data; each theorem names its conditions.
-/
import Derived.Test.YteehoihkbcbbgaaDoorStored
namespace Go.Proofs.YteehoihkbcbbgaaDoor
open Go.ChangeShapes Go.WideShapes Go.ChangeAt Go.RowKit
set_option linter.unusedVariables false

theorem not_i64 (n : Nat) (h : n < 65536) : bits .xor .i64 (-1) (n : Int) = -(n : Int) - 1 := by
  have ha : n % 2 ^ IntKind.i64.bits = n := Nat.mod_eq_of_lt (by show n < 2 ^ 64; omega)
  have hm : BitVec.ofInt IntKind.i64.bits (-1) = BitVec.allOnes IntKind.i64.bits := rfl
  simp only [bits, BitVec.ofInt_natCast, hm]
  have e : (BitVec.allOnes IntKind.i64.bits ^^^ BitVec.ofNat IntKind.i64.bits n).toNat = 18446744073709551615 - n := by
    rw [BitVec.allOnes_xor, BitVec.toNat_not, BitVec.toNat_ofNat, ha]; rfl
  rw [e, IntKind.wrap_i64]; omega
theorem bc_add (W : World) (b : Nat) (ds : List Nat) (hc : ∀ i, i < ds.length → W.cell? ⟨b, 0 + i, none⟩ = some (.int .u8 ((ds.getD i 0 : Nat) : Int))) : ∀ j u, (bc ds)[j]? = some u → W.cell? ((⟨b, 0, none⟩ : Addr).add j) = some u := by
  intro j u hj
  by_cases h : j < ds.length
  · have h2 := hc j h
    have e : u = .int .u8 ((ds.getD j 0 : Nat) : Int) := by
      simp [bc, h] at hj; simp [h]; exact hj.symm
    rw [e, ← h2]
    congr 1
    by_cases h0 : j = 0
    · subst h0; simp [Addr.add]
    · simp [Addr.add, h0]
  · simp [bc] at hj
    obtain ⟨x, hx, _⟩ := hj
    rw [List.getElem?_eq_none (by omega)] at hx
    cases hx

set_option maxHeartbeats 4000000 in
theorem sl2stored (W : World) (b cap : Nat) (ds : List Nat) (hl : ds.length ≤ 6000) (hb : b < W.heap.size) (hc : ∀ i, i < ds.length → W.cell? ⟨b, 0 + i, none⟩ = some (.int .u8 ((ds.getD i 0 : Nat) : Int))) :
    Calls Tryd.prog 53 #[.slice (some ⟨b, 0, none⟩) ds.length cap] W fun e w' => ∃ g c, e = .returned (.slice (some ⟨g, 0, none⟩) (stored ds).length c) ∧ Gave W w' g (stored ds) c := by
  obtain ⟨i0, hi, hz0, hz1, hz2⟩ := info_parts Tryd.info5
  have HC : Hid _ := hc
  clear hc
  have hxn : bits .xor .i64 (if IntKind.i64.signed = true then -1 else 9223372036854775807) (ds.length : Int) = -(ds.length : Int) - 1 := not_i64 ds.length (by omega)
  have HW : Hid (∀ j u, (bc ds)[j]? = some u → (W.alloc (.cells #[.int .u8 1, .int .u8 ((ds.length : Int) % 256), .int .u8 ((ds.length : Int) / 256), .int .u8 ((-(ds.length : Int) - 1) % 256), .int .u8 ((-(ds.length : Int) - 1) / 256 % 256)] 5)).cell? ((⟨b, 0, none⟩ : Addr).add j) = some u) := by
    apply bc_add
    intro i hi
    rw [World.cell?_alloc_past _ _ _ hb]
    exact HC.out i hi
  have HO : Hid ((W.alloc (.cells #[.int .u8 1, .int .u8 ((ds.length : Int) % 256), .int .u8 ((ds.length : Int) / 256), .int .u8 ((-(ds.length : Int) - 1) % 256), .int .u8 ((-(ds.length : Int) - 1) / 256 % 256)] 5)).ownsRow W.heap.size 5 1 (.slice (some ⟨W.heap.size, 0, none⟩) 5 5) 5 [.int .u8 1, .int .u8 ((ds.length : Int) % 256), .int .u8 ((ds.length : Int) / 256), .int .u8 ((-(ds.length : Int) - 1) % 256), .int .u8 ((-(ds.length : Int) - 1) / 256 % 256)]) :=
    World.ownsRow_lit W _ 5 (Nat.le_refl _) (by decide) rfl
  have HE : Hid ([.int .u8 1, .int .u8 ((ds.length : Int) % 256), .int .u8 ((ds.length : Int) / 256), .int .u8 ((-(ds.length : Int) - 1) % 256), .int .u8 ((-(ds.length : Int) - 1) / 256 % 256)] ++ bc ds = bc (stored ds)) := by
    have v1 : ((ds.length : Int) % 256) = ((ds.length % 256 : Nat) : Int) := by omega
    have v2 : ((ds.length : Int) / 256) = ((ds.length / 256 : Nat) : Int) := by omega
    have v3 : ((-(ds.length : Int) - 1) % 256) = (((65535 - ds.length) % 256 : Nat) : Int) := by omega
    have v4 : ((-(ds.length : Int) - 1) / 256 % 256) = (((65535 - ds.length) / 256 : Nat) : Int) := by omega
    show _ = _
    rw [v1, v2, v3, v4]
    rfl
  have HLs : Hid (5 + ds.length = (stored ds).length) := by show _ = _; simp [stored]; omega
  have hbcl : (bc ds).length = ds.length * 1 := by simp [bc]
  have hone : ∀ u ∈ bc ds, u.oneCell' = true := by
    intro u hu
    simp [bc] at hu
    obtain ⟨x, _, rfl⟩ := hu
    rfl
  have H1 : Hid _ := hbcl
  have H2 : Hid _ := hone
  clear hbcl hone
  go_enter Tryd.func53, Tryd.ntmps53
  go_wp2_with (first
    | (at_builtin; (refine wpList_append_own _ rfl _ _ 22 rfl W.heap.size 5 i0 (.int .u8 0) 1 1 Tryd.underlying22 hi hz0 hz1 hz2 rfl (by decide) _ _ _ rfl HO.out ⟨b, 0, none⟩ ds.length cap (bc ds) rfl H1.out HW.out H2.out ?c3 ?c4 ?c5 ?_))
    | go_in)
  case c3 => unfold maxLen; omega
  case c4 => omega
  case c5 => simp
  intro v' w1 hown' hgrow hnn
  have hown2 : w1.ownsRow W.heap.size 5 1 v' (stored ds).length (bc (stored ds)) := by
    rw [← HLs.out, ← HE.out]; exact hown'
  rcases hown2.2 with ⟨h, _⟩ | ⟨g, cap', cur, rfl, hg1, hg2, hg3, hg4, hg5, hg6⟩
  · exact absurd h hnn
  have HG : Hid (Gave W w1 g (stored ds) cap') := by
    refine ⟨?_, hg1, hown2⟩
    refine ((Below.refl W.heap.size W).alloc (Nat.le_refl _) (.cells #[.int .u8 1, .int .u8 ((ds.length : Int) % 256), .int .u8 ((ds.length : Int) / 256), .int .u8 ((-(ds.length : Int) - 1) % 256), .int .u8 ((-(ds.length : Int) - 1) / 256 % 256)] 5)).trans ⟨hgrow.os, hgrow.tape, hgrow.output, hgrow.size, fun k hk => hgrow.block k (by simp; omega) (fun e => ?_)⟩
    simp [Value.ownBlock] at e
    omega
  clear hown2 hown' hgrow hg2 hg5 hg6 HW HO HE
  go_wp2
  go_ret
  exact ⟨_, _, rfl, HG.out⟩

end Go.Proofs.YteehoihkbcbbgaaDoor
