/-
  Where a length and a distance lie in their tables, of the program and of the specification; each theorem names its conditions.
-/
import Derived.Test.YteehoihkbcbbgaaDoorNums
namespace Go.Proofs.YteehoihkbcbbgaaDoor
open Go.ChangeShapes Go.WideShapes Go.ChangeAt Go.RowKit
set_option linter.unusedVariables false

def LBl : List Nat := [3, 4, 5, 6, 7, 8, 9, 10, 11, 13, 15, 17, 19, 23, 27, 31, 35, 43, 51, 59, 67, 83, 99, 115, 131, 163, 195, 227, 258]
def LEl : List Nat := [0, 0, 0, 0, 0, 0, 0, 0, 1, 1, 1, 1, 2, 2, 2, 2, 3, 3, 3, 3, 4, 4, 4, 4, 5, 5, 5, 5, 0]
def DBl : List Nat := [1, 2, 3, 4, 5, 7, 9, 13, 17, 25, 33, 49, 65, 97, 129, 193, 257, 385, 513, 769, 1025, 1537, 2049, 3073, 4097, 6145, 8193, 12289, 16385, 24577]
def DEl : List Nat := [0, 0, 0, 0, 1, 1, 2, 2, 3, 3, 4, 4, 5, 5, 6, 6, 7, 7, 8, 8, 9, 9, 10, 10, 11, 11, 12, 12, 13, 13]
def LB (k : Nat) : Nat := LBl.getD k 0
def LE (k : Nat) : Nat := LEl.getD k 0
def DB (k : Nat) : Nat := DBl.getD k 0
def DE (k : Nat) : Nat := DEl.getD k 0
theorem LB_mono (i j : Nat) (h : i < j) (hj : j < 29) : LB i < LB j := by
  have : ∀ j : Fin 29, ∀ i : Fin 29, i.val < j.val → LB i.val < LB j.val := by decide
  exact this ⟨j, hj⟩ ⟨i, by omega⟩ h
theorem DB_mono (i j : Nat) (h : i < j) (hj : j < 30) : DB i < DB j := by
  have : ∀ j : Fin 30, ∀ i : Fin 30, i.val < j.val → DB i.val < DB j.val := by decide
  exact this ⟨j, hj⟩ ⟨i, by omega⟩ h
theorem LB_bd (k : Nat) (h : k < 29) : 3 ≤ LB k ∧ LB k ≤ 258 ∧ LE k ≤ 5 := by
  have : ∀ j : Fin 29, 3 ≤ LB j.val ∧ LB j.val ≤ 258 ∧ LE j.val ≤ 5 := by decide
  exact this ⟨k, h⟩
theorem DB_bd (k : Nat) (h : k < 30) : 1 ≤ DB k ∧ DB k ≤ 24577 ∧ DE k ≤ 13 := by
  have : ∀ j : Fin 30, 1 ≤ DB j.val ∧ DB j.val ≤ 24577 ∧ DE j.val ≤ 13 := by decide
  exact this ⟨k, h⟩
/-- The last place, from k down, whose number is not above n. -/
def dn (f : Nat → Nat) (n : Nat) : Nat → Nat
  | 0 => 0
  | k + 1 => if f (k + 1) ≤ n then k + 1 else dn f n k
theorem dn_le (f : Nat → Nat) (n M : Nat) : dn f n M ≤ M := by
  induction M with
  | zero => exact Nat.le_refl _
  | succ M ih => unfold dn; split <;> omega
theorem dn_fit (f : Nat → Nat) (n M : Nat) (h0 : f 0 ≤ n) : f (dn f n M) ≤ n := by
  induction M with
  | zero => exact h0
  | succ M ih => unfold dn; split
                 · assumption
                 · exact ih
theorem dn_eq (f : Nat → Nat) (n k M : Nat) (hk : k ≤ M) (h1 : ∀ j, k < j → j ≤ M → n < f j) (h2 : k = 0 ∨ f k ≤ n) : dn f n M = k := by
  induction M with
  | zero => show 0 = k; omega
  | succ M ih =>
    unfold dn
    by_cases e : k = M + 1
    · subst e
      rcases h2 with h2 | h2
      · omega
      · rw [if_pos h2]
    · rw [if_neg (by have := h1 (M + 1) (by omega) (Nat.le_refl _); omega)]
      exact ih (by omega) (fun j hj hj2 => h1 j hj (by omega))
def lp (n : Nat) : Nat := dn LB n 28
def dp (n : Nat) : Nat := dn DB n 29
/-- The four tables lie in their blocks. -/
def Tabs (w : World) : Prop :=
  (∀ i, i < 29 → w.cell? ⟨0, i, none⟩ = some (.int .i64 (LB i : Int))) ∧ (∀ i, i < 29 → w.cell? ⟨1, i, none⟩ = some (.int .i64 (LE i : Int))) ∧
  (∀ i, i < 30 → w.cell? ⟨2, i, none⟩ = some (.int .i64 (DB i : Int))) ∧ (∀ i, i < 30 → w.cell? ⟨3, i, none⟩ = some (.int .i64 (DE i : Int))) ∧ 4 ≤ w.heap.size
theorem Tabs.below {w w' : World} {B : Nat} (h : Tabs w) (k : Below B w w') (hB : 4 ≤ B) : Tabs w' := by
  obtain ⟨a, b, c, d, e⟩ := h
  exact ⟨fun i hi => (k.cell (p := ⟨0, i, none⟩) (by show 0 < B; omega)).trans (a i hi), fun i hi => (k.cell (p := ⟨1, i, none⟩) (by show 1 < B; omega)).trans (b i hi), fun i hi => (k.cell (p := ⟨2, i, none⟩) (by show 2 < B; omega)).trans (c i hi), fun i hi => (k.cell (p := ⟨3, i, none⟩) (by show 3 < B; omega)).trans (d i hi), Nat.le_trans e k.size⟩

set_option maxHeartbeats 1000000 in
theorem lengthPlace_any (n : Nat) (w : World) (ht : Tabs w) (hn : LB 0 ≤ n) (hn2 : n ≤ 100000) : Calls Tryd.prog 28 #[.int .i64 n] w fun e w' => e = .returned (.int .i64 (lp n : Int)) ∧ w' = w := by
  have HT : Hid (∀ i, i < 29 → w.cell? ⟨0, i, none⟩ = some (.int .i64 (LB i : Int))) := ht.1
  clear ht
  go_enter Tryd.func28, Tryd.ntmps28
  go_wp2
  go_loop [3] (fun i => ∃ k : Nat, k ≤ 28 ∧ i = .int .i64 k ∧ LB k ≤ n) (fun i => 28 - (intOf i).toNat)
  case atStart => exact ⟨0, Nat.zero_le _, rfl, hn⟩
  case round =>
    obtain ⟨k, hk, rfl, hf⟩ := hrel
    by_cases hlt : k < 28
    · have c0 := HT.out (k + 1) (by omega)
      have g1 : decide ((k : Int) + 1 < 29) = true := by simp; omega
      have x1 : (k : Int) + 1 < 29 := by omega
      have bb := LB_bd (k + 1) (by omega)
      by_cases hle : LB (k + 1) ≤ n
      · have HF : Hid (LB (k + 1) ≤ n) := hle
        generalize hv : LB (k + 1) = v at *
        have HV : Hid (LB (k + 1) = v) := hv
        clear hv
        have d2 : decide ((v : Int) ≤ (n : Int)) = true := by simp; omega
        have d3 : decide (v ≤ n) = true := by simp; omega
        go_wp2
        go_round
        case rel => exact ⟨k + 1, by omega, by go_num, by rw [HV.out]; exact HF.out⟩
        case measure => simp [intOf]; omega
      · have HE : Hid (lp n = k) := by
          refine dn_eq LB n k 28 hk (fun j h1 h2 => ?_) (Or.inr hf)
          by_cases e : j = k + 1
          · subst e; omega
          · have := LB_mono (k + 1) j (by omega) (by omega); omega
        generalize LB (k + 1) = v at *
        have d2 : decide ((v : Int) ≤ (n : Int)) = false := by simp; omega
        have d3 : decide (v ≤ n) = false := by simp; omega
        go_wp2
        go_ret
        exact ⟨by rw [HE.out]; rfl, rfl⟩
    · have e : k = 28 := by omega
      subst e
      have HE : Hid (lp n = 28) := dn_eq LB n 28 28 (Nat.le_refl _) (fun j h1 h2 => by omega) (Or.inr hf)
      clear hf hlt
      go_wp2
      go_ret
      exact ⟨by rw [HE.out]; rfl, rfl⟩
set_option maxHeartbeats 1000000 in
theorem distancePlace_any (n : Nat) (w : World) (ht : Tabs w) (hn : DB 0 ≤ n) (hn2 : n ≤ 100000) : Calls Tryd.prog 58 #[.int .i64 n] w fun e w' => e = .returned (.int .i64 (dp n : Int)) ∧ w' = w := by
  have HT : Hid (∀ i, i < 30 → w.cell? ⟨2, i, none⟩ = some (.int .i64 (DB i : Int))) := ht.2.2.1
  clear ht
  go_enter Tryd.func58, Tryd.ntmps58
  go_wp2
  go_loop [3] (fun i => ∃ k : Nat, k ≤ 29 ∧ i = .int .i64 k ∧ DB k ≤ n) (fun i => 29 - (intOf i).toNat)
  case atStart => exact ⟨0, Nat.zero_le _, rfl, hn⟩
  case round =>
    obtain ⟨k, hk, rfl, hf⟩ := hrel
    by_cases hlt : k < 29
    · have c0 := HT.out (k + 1) (by omega)
      have g1 : decide ((k : Int) + 1 < 30) = true := by simp; omega
      have x1 : (k : Int) + 1 < 30 := by omega
      have bb := DB_bd (k + 1) (by omega)
      by_cases hle : DB (k + 1) ≤ n
      · have HF : Hid (DB (k + 1) ≤ n) := hle
        generalize hv : DB (k + 1) = v at *
        have HV : Hid (DB (k + 1) = v) := hv
        clear hv
        have d2 : decide ((v : Int) ≤ (n : Int)) = true := by simp; omega
        have d3 : decide (v ≤ n) = true := by simp; omega
        go_wp2
        go_round
        case rel => exact ⟨k + 1, by omega, by go_num, by rw [HV.out]; exact HF.out⟩
        case measure => simp [intOf]; omega
      · have HE : Hid (dp n = k) := by
          refine dn_eq DB n k 29 hk (fun j h1 h2 => ?_) (Or.inr hf)
          by_cases e : j = k + 1
          · subst e; omega
          · have := DB_mono (k + 1) j (by omega) (by omega); omega
        generalize DB (k + 1) = v at *
        have d2 : decide ((v : Int) ≤ (n : Int)) = false := by simp; omega
        have d3 : decide (v ≤ n) = false := by simp; omega
        go_wp2
        go_ret
        exact ⟨by rw [HE.out]; rfl, rfl⟩
    · have e : k = 29 := by omega
      subst e
      have HE : Hid (dp n = 29) := dn_eq DB n 29 29 (Nat.le_refl _) (fun j h1 h2 => by omega) (Or.inr hf)
      clear hf hlt
      go_wp2
      go_ret
      exact ⟨by rw [HE.out]; rfl, rfl⟩

set_option maxHeartbeats 1000000 in
theorem base_any (k : Nat) (w : World) (hk : k ≤ 28) : Calls Tryd.prog 92 #[.int .i64 k] w fun e w' => e = .returned (.tuple #[.int .i64 (LB k : Int), .int .i64 (LE k : Int)]) ∧ w' = w := by
  by_cases h28 : k = 28
  · subst h28
    go_enter Tryd.func92, Tryd.ntmps92
    go_wp2
    go_ret2
    exact ⟨rfl, rfl⟩
  · have z : ((k : Int) == 28) = false := by rw [beq_eq_false_iff_ne]; omega
    by_cases h8 : k < 8
    · have e : ∀ j : Fin 8, LB j.val = 3 + j.val ∧ LE j.val = 0 := by decide
      obtain ⟨e1, e2⟩ := e ⟨k, h8⟩
      dsimp only at e1 e2
      rw [e1, e2]
      have d8 : decide ((k : Int) < 8) = true := by simp; omega
      go_enter Tryd.func92, Tryd.ntmps92
      go_wp2
      go_ret2
      exact ⟨rfl, rfl⟩
    · have e : ∀ j : Fin 28, 8 ≤ j.val → LB j.val = 3 + (4 + j.val % 4) * 2 ^ (j.val / 4 - 1) ∧ LE j.val = j.val / 4 - 1 := by decide
      obtain ⟨e1, e2⟩ := e ⟨k, by omega⟩ (by show 8 ≤ k; omega)
      dsimp only at e1 e2
      have d8 : decide ((k : Int) < 8) = false := by simp; omega
      have b := LB_bd k (by omega)
      have h1 : (k : Int) / 4 - 1 = ((LE k : Nat) : Int) := by rw [e2]; omega
      have h2 : (4 : Int) + (k : Int) % 4 = ((4 + k % 4 : Nat) : Int) := by omega
      rw [← e2] at e1
      have h3 : ((4 + k % 4 : Nat) : Int) * 2 ^ (LE k) = ((LB k : Nat) : Int) - 3 := by
        have : (4 + k % 4) * 2 ^ (LE k) = LB k - 3 := by omega
        rw [show (((4 + k % 4 : Nat) : Int) * 2 ^ (LE k)) = (((4 + k % 4) * 2 ^ (LE k) : Nat) : Int) by simp, this]; omega
      have hw := IntWalk.i64_in (((LB k : Nat) : Int) - 3) (by omega)
      have h4 : (3 : Int) + (((LB k : Nat) : Int) - 3) = ((LB k : Nat) : Int) := by omega
      clear e1 e2
      generalize LB k = B at *
      generalize LE k = E at *
      generalize 4 + k % 4 = F at *
      go_enter Tryd.func92, Tryd.ntmps92
      go_wp2
      go_ret2
      exact ⟨rfl, rfl⟩

set_option maxHeartbeats 1000000 in
theorem back_any (k : Nat) (w : World) (hk : k ≤ 29) : Calls Tryd.prog 93 #[.int .i64 k] w fun e w' => e = .returned (.tuple #[.int .i64 (DB k : Int), .int .i64 (DE k : Int)]) ∧ w' = w := by
  by_cases h8 : k < 4
  · have e : ∀ j : Fin 4, DB j.val = 1 + j.val ∧ DE j.val = 0 := by decide
    obtain ⟨e1, e2⟩ := e ⟨k, h8⟩
    dsimp only at e1 e2
    rw [e1, e2]
    have d8 : decide ((k : Int) < 4) = true := by simp; omega
    go_enter Tryd.func93, Tryd.ntmps93
    go_wp2
    go_ret2
    exact ⟨rfl, rfl⟩
  · have e : ∀ j : Fin 30, 4 ≤ j.val → DB j.val = 1 + (2 + j.val % 2) * 2 ^ (j.val / 2 - 1) ∧ DE j.val = j.val / 2 - 1 := by decide
    obtain ⟨e1, e2⟩ := e ⟨k, by omega⟩ (by show 4 ≤ k; omega)
    dsimp only at e1 e2
    have d8 : decide ((k : Int) < 4) = false := by simp; omega
    have b := DB_bd k (by omega)
    have h1 : (k : Int) / 2 - 1 = ((DE k : Nat) : Int) := by rw [e2]; omega
    have h2 : (2 : Int) + (k : Int) % 2 = ((2 + k % 2 : Nat) : Int) := by omega
    rw [← e2] at e1
    have h3 : ((2 + k % 2 : Nat) : Int) * 2 ^ (DE k) = ((DB k : Nat) : Int) - 1 := by
      have : (2 + k % 2) * 2 ^ (DE k) = DB k - 1 := by omega
      rw [show (((2 + k % 2 : Nat) : Int) * 2 ^ (DE k)) = (((2 + k % 2) * 2 ^ (DE k) : Nat) : Int) by simp, this]; omega
    have hw := IntWalk.i64_in (((DB k : Nat) : Int) - 1) (by omega)
    have h4 : (1 : Int) + (((DB k : Nat) : Int) - 1) = ((DB k : Nat) : Int) := by omega
    clear e1 e2
    generalize DB k = B at *
    generalize DE k = E at *
    generalize 2 + k % 2 = F at *
    go_enter Tryd.func93, Tryd.ntmps93
    go_wp2
    go_ret2
    exact ⟨rfl, rfl⟩

/-- The lengths of the fixed codes. -/
def fl (k : Nat) : Int := if k < 144 then 8 else if k < 256 then 9 else if k < 280 then 7 else 8
def fixedL : List Int := (List.range 288).map fl
theorem fixedL_len : fixedL.length = 288 := by simp [fixedL]
theorem fixedL_get (k : Nat) (h : k < 288) : fixedL.getD k 0 = fl k := by simp [fixedL, h]
end Go.Proofs.YteehoihkbcbbgaaDoor
