/-
  The properties, their first values and whether they are inherited: the program's table and the specification's; each theorem names its conditions.
-/
import Derived.Test.YtaeepbjdhcbofaaPs
import Derived.Test.YtaeepbjdhcbofaaLet
import Derived.Deep.WholeRow
namespace Go.Proofs.Ytaeepbjdhcbofaa
open Go.ChangeShapes Go.WideShapes Go.ChangeAt Go.RowKit
set_option linter.unusedVariables false

structure PR where
  n : ByteArray
  f : ByteArray
  b : Bool
def noPR : PR := ⟨⟨#[]⟩, ⟨#[]⟩, false⟩
def prL : List PR := [⟨⟨#[99, 108, 105, 112, 45, 112, 97, 116, 104]⟩, ⟨#[110, 111, 110, 101]⟩, false⟩, ⟨⟨#[99, 111, 108, 111, 114]⟩, ⟨#[98, 108, 97, 99, 107]⟩, true⟩, ⟨⟨#[100, 105, 115, 112, 108, 97, 121]⟩, ⟨#[105, 110, 108, 105, 110, 101]⟩, false⟩, ⟨⟨#[102, 105, 108, 108]⟩, ⟨#[98, 108, 97, 99, 107]⟩, true⟩, ⟨⟨#[102, 105, 108, 108, 45, 111, 112, 97, 99, 105, 116, 121]⟩, ⟨#[49]⟩, true⟩, ⟨⟨#[102, 105, 108, 108, 45, 114, 117, 108, 101]⟩, ⟨#[110, 111, 110, 122, 101, 114, 111]⟩, true⟩, ⟨⟨#[111, 102, 102, 115, 101, 116]⟩, ⟨#[48]⟩, false⟩, ⟨⟨#[111, 112, 97, 99, 105, 116, 121]⟩, ⟨#[49]⟩, false⟩, ⟨⟨#[115, 116, 111, 112, 45, 99, 111, 108, 111, 114]⟩, ⟨#[98, 108, 97, 99, 107]⟩, false⟩, ⟨⟨#[115, 116, 114, 111, 107, 101]⟩, ⟨#[110, 111, 110, 101]⟩, true⟩, ⟨⟨#[115, 116, 114, 111, 107, 101, 45, 100, 97, 115, 104, 97, 114, 114, 97, 121]⟩, ⟨#[110, 111, 110, 101]⟩, true⟩, ⟨⟨#[115, 116, 114, 111, 107, 101, 45, 108, 105, 110, 101, 99, 97, 112]⟩, ⟨#[98, 117, 116, 116]⟩, true⟩, ⟨⟨#[115, 116, 114, 111, 107, 101, 45, 108, 105, 110, 101, 106, 111, 105, 110]⟩, ⟨#[109, 105, 116, 101, 114]⟩, true⟩, ⟨⟨#[115, 116, 114, 111, 107, 101, 45, 111, 112, 97, 99, 105, 116, 121]⟩, ⟨#[49]⟩, true⟩, ⟨⟨#[115, 116, 114, 111, 107, 101, 45, 119, 105, 100, 116, 104]⟩, ⟨#[49]⟩, true⟩, ⟨⟨#[118, 105, 115, 105, 98, 105, 108, 105, 116, 121]⟩, ⟨#[118, 105, 115, 105, 98, 108, 101]⟩, true⟩]
def prAt (k : Nat) : PR := prL.getD k noPR
def prV (p : PR) : Value := .agg #[.string p.n, .string p.f, .bool p.b]
def prT : Array Value := #[.string ⟨#[99, 108, 105, 112, 45, 112, 97, 116, 104]⟩, .string ⟨#[110, 111, 110, 101]⟩, .bool false, .string ⟨#[99, 111, 108, 111, 114]⟩, .string ⟨#[98, 108, 97, 99, 107]⟩, .bool true, .string ⟨#[100, 105, 115, 112, 108, 97, 121]⟩, .string ⟨#[105, 110, 108, 105, 110, 101]⟩, .bool false, .string ⟨#[102, 105, 108, 108]⟩, .string ⟨#[98, 108, 97, 99, 107]⟩, .bool true, .string ⟨#[102, 105, 108, 108, 45, 111, 112, 97, 99, 105, 116, 121]⟩, .string ⟨#[49]⟩, .bool true, .string ⟨#[102, 105, 108, 108, 45, 114, 117, 108, 101]⟩, .string ⟨#[110, 111, 110, 122, 101, 114, 111]⟩, .bool true, .string ⟨#[111, 102, 102, 115, 101, 116]⟩, .string ⟨#[48]⟩, .bool false, .string ⟨#[111, 112, 97, 99, 105, 116, 121]⟩, .string ⟨#[49]⟩, .bool false, .string ⟨#[115, 116, 111, 112, 45, 99, 111, 108, 111, 114]⟩, .string ⟨#[98, 108, 97, 99, 107]⟩, .bool false, .string ⟨#[115, 116, 114, 111, 107, 101]⟩, .string ⟨#[110, 111, 110, 101]⟩, .bool true, .string ⟨#[115, 116, 114, 111, 107, 101, 45, 100, 97, 115, 104, 97, 114, 114, 97, 121]⟩, .string ⟨#[110, 111, 110, 101]⟩, .bool true, .string ⟨#[115, 116, 114, 111, 107, 101, 45, 108, 105, 110, 101, 99, 97, 112]⟩, .string ⟨#[98, 117, 116, 116]⟩, .bool true, .string ⟨#[115, 116, 114, 111, 107, 101, 45, 108, 105, 110, 101, 106, 111, 105, 110]⟩, .string ⟨#[109, 105, 116, 101, 114]⟩, .bool true, .string ⟨#[115, 116, 114, 111, 107, 101, 45, 111, 112, 97, 99, 105, 116, 121]⟩, .string ⟨#[49]⟩, .bool true, .string ⟨#[115, 116, 114, 111, 107, 101, 45, 119, 105, 100, 116, 104]⟩, .string ⟨#[49]⟩, .bool true, .string ⟨#[118, 105, 115, 105, 98, 105, 108, 105, 116, 121]⟩, .string ⟨#[118, 105, 115, 105, 98, 108, 101]⟩, .bool true]
theorem prT_at : ∀ k, k < 16 → Value.agg (prT.extract (k * 3) (k * 3 + 3)) = prV (prAt k) := by
  intro k hk
  rcases (show k = 0 ∨ k = 1 ∨ k = 2 ∨ k = 3 ∨ k = 4 ∨ k = 5 ∨ k = 6 ∨ k = 7 ∨ k = 8 ∨ k = 9 ∨ k = 10 ∨ k = 11 ∨ k = 12 ∨ k = 13 ∨ k = 14 ∨ k = 15 by omega) with rfl | rfl | rfl | rfl | rfl | rfl | rfl | rfl | rfl | rfl | rfl | rfl | rfl | rfl | rfl | rfl
  all_goals kernel_rfl
def pf (name : ByteArray) : Option PR := prL.find? fun p => decide (p.n = name)
theorem pf_own : ∀ k, k < 16 → pf (prAt k).n = some (prAt k) := by
  intro k hk
  rcases (show k = 0 ∨ k = 1 ∨ k = 2 ∨ k = 3 ∨ k = 4 ∨ k = 5 ∨ k = 6 ∨ k = 7 ∨ k = 8 ∨ k = 9 ∨ k = 10 ∨ k = 11 ∨ k = 12 ∨ k = 13 ∨ k = 14 ∨ k = 15 by omega) with rfl | rfl | rfl | rfl | rfl | rfl | rfl | rfl | rfl | rfl | rfl | rfl | rfl | rfl | rfl | rfl
  all_goals kernel_rfl
theorem pf_none {name : ByteArray} (h : ∀ j, j < 16 → (prAt j).n ≠ name) : pf name = none := by
  unfold pf
  rw [List.find?_eq_none]
  intro x hx
  obtain ⟨j, hj, rfl⟩ := List.getElem_of_mem hx
  have hl : prL.length = 16 := rfl
  have := h j (by omega)
  have e : prAt j = prL[j] := by simp [prAt, hj]
  rw [e] at this
  simpa using this
theorem beq_no {x y : ByteArray} (h : x ≠ y) : (x.toList == y.toList) = false := (Lib.bytes_beq_false_iff _ _).2 h

set_option maxHeartbeats 4000000 in
set_option maxRecDepth 100000 in
theorem allProps (w : World) : Calls Try.prog 27 #[] w fun e w' => e = .returned (.agg prT) ∧ Nw w w' := by
  go_enter Try.func27, Try.ntmps27
  generalize hs0 : (⟨#[99, 108, 105, 112, 45, 112, 97, 116, 104]⟩ : ByteArray) = s0
  generalize hs1 : (⟨#[110, 111, 110, 101]⟩ : ByteArray) = s1
  generalize hs2 : (⟨#[99, 111, 108, 111, 114]⟩ : ByteArray) = s2
  generalize hs3 : (⟨#[98, 108, 97, 99, 107]⟩ : ByteArray) = s3
  generalize hs4 : (⟨#[100, 105, 115, 112, 108, 97, 121]⟩ : ByteArray) = s4
  generalize hs5 : (⟨#[105, 110, 108, 105, 110, 101]⟩ : ByteArray) = s5
  generalize hs6 : (⟨#[102, 105, 108, 108]⟩ : ByteArray) = s6
  generalize hs7 : (⟨#[102, 105, 108, 108, 45, 111, 112, 97, 99, 105, 116, 121]⟩ : ByteArray) = s7
  generalize hs8 : (⟨#[49]⟩ : ByteArray) = s8
  generalize hs9 : (⟨#[102, 105, 108, 108, 45, 114, 117, 108, 101]⟩ : ByteArray) = s9
  generalize hs10 : (⟨#[110, 111, 110, 122, 101, 114, 111]⟩ : ByteArray) = s10
  generalize hs11 : (⟨#[111, 102, 102, 115, 101, 116]⟩ : ByteArray) = s11
  generalize hs12 : (⟨#[48]⟩ : ByteArray) = s12
  generalize hs13 : (⟨#[111, 112, 97, 99, 105, 116, 121]⟩ : ByteArray) = s13
  generalize hs14 : (⟨#[115, 116, 111, 112, 45, 99, 111, 108, 111, 114]⟩ : ByteArray) = s14
  generalize hs15 : (⟨#[115, 116, 114, 111, 107, 101]⟩ : ByteArray) = s15
  generalize hs16 : (⟨#[115, 116, 114, 111, 107, 101, 45, 100, 97, 115, 104, 97, 114, 114, 97, 121]⟩ : ByteArray) = s16
  generalize hs17 : (⟨#[115, 116, 114, 111, 107, 101, 45, 108, 105, 110, 101, 99, 97, 112]⟩ : ByteArray) = s17
  generalize hs18 : (⟨#[98, 117, 116, 116]⟩ : ByteArray) = s18
  generalize hs19 : (⟨#[115, 116, 114, 111, 107, 101, 45, 108, 105, 110, 101, 106, 111, 105, 110]⟩ : ByteArray) = s19
  generalize hs20 : (⟨#[109, 105, 116, 101, 114]⟩ : ByteArray) = s20
  generalize hs21 : (⟨#[115, 116, 114, 111, 107, 101, 45, 111, 112, 97, 99, 105, 116, 121]⟩ : ByteArray) = s21
  generalize hs22 : (⟨#[115, 116, 114, 111, 107, 101, 45, 119, 105, 100, 116, 104]⟩ : ByteArray) = s22
  generalize hs23 : (⟨#[118, 105, 115, 105, 98, 105, 108, 105, 116, 121]⟩ : ByteArray) = s23
  generalize hs24 : (⟨#[118, 105, 115, 105, 98, 108, 101]⟩ : ByteArray) = s24
  obtain ⟨TT, hT⟩ : ∃ T : TypeId, T = 48 := ⟨_, rfl⟩
  rw [show ∀ ps, Op.build 48 ps = Op.build TT ps from fun ps => by rw [hT]]
  have HT : Hid (TT = 48) := hT
  clear hT
  go_wp2
  have hT := HT.out
  subst hT
  generalize hZ : (List.toArray (Value.string ⟨#[]⟩ :: Value.string ⟨#[]⟩ :: Value.bool false :: Value.string ⟨#[]⟩ :: Value.string ⟨#[]⟩ :: Value.bool false :: Value.string ⟨#[]⟩ :: Value.string ⟨#[]⟩ :: Value.bool false :: Value.string ⟨#[]⟩ :: Value.string ⟨#[]⟩ :: Value.bool false :: Value.string ⟨#[]⟩ :: Value.string ⟨#[]⟩ :: Value.bool false :: Value.string ⟨#[]⟩ :: Value.string ⟨#[]⟩ :: Value.bool false :: Value.string ⟨#[]⟩ :: Value.string ⟨#[]⟩ :: Value.bool false :: Value.string ⟨#[]⟩ :: Value.string ⟨#[]⟩ :: Value.bool false :: Value.string ⟨#[]⟩ :: Value.string ⟨#[]⟩ :: Value.bool false :: Value.string ⟨#[]⟩ :: Value.string ⟨#[]⟩ :: Value.bool false :: Value.string ⟨#[]⟩ :: Value.string ⟨#[]⟩ :: Value.bool false :: Value.string ⟨#[]⟩ :: Value.string ⟨#[]⟩ :: Value.bool false :: Value.string ⟨#[]⟩ :: Value.string ⟨#[]⟩ :: Value.bool false :: Value.string ⟨#[]⟩ :: Value.string ⟨#[]⟩ :: Value.bool false :: Value.string ⟨#[]⟩ :: Value.string ⟨#[]⟩ :: Value.bool false :: Value.string ⟨#[]⟩ :: Value.string ⟨#[]⟩ :: Value.bool false :: [])) = Z
  have hZs : Z.size = 48 := by rw [← hZ]; rfl
  generalize hW : w.alloc (.cells Z 48) = W
  clear hZ
  simp [go_sem]
  rename_i hk
  refine hk _ _ ?_
  clear hk
  generalize hC : (List.toArray (Value.string s0 :: Value.string s1 :: Value.bool false :: Value.string s2 :: Value.string s3 :: Value.bool true :: Value.string s4 :: Value.string s5 :: Value.bool false :: Value.string s6 :: Value.string s3 :: Value.bool true :: Value.string s7 :: Value.string s8 :: Value.bool true :: Value.string s9 :: Value.string s10 :: Value.bool true :: Value.string s11 :: Value.string s12 :: Value.bool false :: Value.string s13 :: Value.string s8 :: Value.bool false :: Value.string s14 :: Value.string s3 :: Value.bool false :: Value.string s15 :: Value.string s1 :: Value.bool true :: Value.string s16 :: Value.string s1 :: Value.bool true :: Value.string s17 :: Value.string s18 :: Value.bool true :: Value.string s19 :: Value.string s20 :: Value.bool true :: Value.string s21 :: Value.string s8 :: Value.bool true :: Value.string s22 :: Value.string s8 :: Value.bool true :: Value.string s23 :: Value.string s24 :: Value.bool true :: [])) = C
  have hCs : C.size = 48 := by rw [← hC]; rfl
  have hC1 : C.all (·.oneCell') = true := by rw [← hC]; simp [Value.oneCell']
  have hsc := run_storeCells_new (P := Try.prog) w 48 Z C (by rw [hCs]; kernel_rfl) (by omega) hC1
  have HL : Hid ((loadVar 48 ⟨w.heap.size, 0, none⟩).run Try.prog (w.alloc (.cells C 48)) = .ok (.agg C) (w.alloc (.cells C 48))) := run_loadVar_new w 48 C 16 47 Try.underlying48 (by rw [hCs]; kernel_rfl)
  have HC : Hid ((List.toArray (Value.string s0 :: Value.string s1 :: Value.bool false :: Value.string s2 :: Value.string s3 :: Value.bool true :: Value.string s4 :: Value.string s5 :: Value.bool false :: Value.string s6 :: Value.string s3 :: Value.bool true :: Value.string s7 :: Value.string s8 :: Value.bool true :: Value.string s9 :: Value.string s10 :: Value.bool true :: Value.string s11 :: Value.string s12 :: Value.bool false :: Value.string s13 :: Value.string s8 :: Value.bool false :: Value.string s14 :: Value.string s3 :: Value.bool false :: Value.string s15 :: Value.string s1 :: Value.bool true :: Value.string s16 :: Value.string s1 :: Value.bool true :: Value.string s17 :: Value.string s18 :: Value.bool true :: Value.string s19 :: Value.string s20 :: Value.bool true :: Value.string s21 :: Value.string s8 :: Value.bool true :: Value.string s22 :: Value.string s8 :: Value.bool true :: Value.string s23 :: Value.string s24 :: Value.bool true :: [])) = C) := hC
  subst hW
  clear hC hC1
  go_wp2
  refine bodyPost_ret (v := .agg C) ?_ rfl ⟨?_, (Below.refl _ _).alloc (Nat.le_refl _) _⟩
  · exact results_cell_row Try.results27 _ _ w.heap.size 48 C (0, 0) _ rfl (heap_alloc_last w _) Try.underlying48 rfl (by rw [hCs]; kernel_rfl)
  · rw [← HC.out]
    clear HC HL hsc
    subst hs0 hs1 hs2 hs3 hs4 hs5 hs6 hs7 hs8 hs9 hs10 hs11 hs12 hs13 hs14 hs15 hs16 hs17 hs18 hs19 hs20 hs21 hs22 hs23 hs24
    rfl
theorem ix_pr (k : Nat) (h : k < 16) (W : World) : (Instr.index 48 (.agg prT) (.int .i64 (k : Int))).run Try.prog W = .ok (prV (prAt k)) W := by
  have h2 : (0 : Int) ≤ (k : Int) ∧ (k : Int) < 16 := by omega
  have h3 := prT_at k h
  generalize prT = T at *
  simp [Instr.index, run_underlying Try.underlying48, asIntOf, h2, h, go_sem]
  exact h3
end Go.Proofs.Ytaeepbjdhcbofaa
