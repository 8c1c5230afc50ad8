/-
  Lists of texts of the call's own, to which texts are appended; each theorem names its conditions.
  Whether a number lies between two others, by the specification; no condition.
  Looks at a byte: letters and digits, the program's and the specification's; each theorem names its conditions.
  Marks laid into a list of texts and looked for: what the laws' helpers do; each theorem names its conditions.
-/
import Derived.Test.YtnkmdmmlpidcmaaGreatDoorJAB
import Derived.Test.YtnkmdmmlpidcmaaGreatDoorJAA
import Derived.Lib.SlicesS
import Derived.Lib.SlBytesRow
namespace Go.Proofs.YtnkmdmmlpidcmaaGreatDoor
open Go.ChangeShapes Go.WideShapes Go.ChangeAt Go.RowKit
set_option linter.unusedVariables false

theorem txs_parts : ∃ i, Tryz.prog.info? 9 = some i ∧ i.zero = some (.string ⟨#[]⟩) ∧ i.size = 1 ∧ i.bytes = 16 := by
  have h : (Tryz.prog.info? 9).map (fun i => (i.zero, i.size, i.bytes)) = some (some (.string ⟨#[]⟩), 1, 16) := by kernel_rfl
  obtain ⟨i, hi, hzz⟩ := Option.map_eq_some_iff.1 h
  simp only [Prod.mk.injEq] at hzz
  exact ⟨i, hi, hzz⟩
/-- The texts l in a list of the call's own, nil or in a block from B on. -/
def Txs (w : World) (B : Nat) (v : Value) (l : List ByteArray) : Prop := w.ownsRow B 9 1 v l.length (l.map Value.string)
theorem Txs.nil (w : World) (B : Nat) : Txs w B (.slice none 0 0) [] := World.ownsRow_nil w B _ 1
theorem Txs.nw {w w' : World} {B : Nat} {v : Value} {l : List ByteArray} (h : Txs w B v l) (k : Nw w w') : Txs w' B v l :=
  World.ownsRow.kept h (row := none) ⟨Below.os k, Below.tape k, Below.output k, Below.size k, fun b hb _ => Below.block k b hb⟩ (by cases hv : v.ownBlock <;> simp)
theorem Txs.below {w w' : World} {B : Nat} {v v' : Value} {l : List ByteArray} (h : Txs w B v l) (k : Ext v v' w w') (hB : B ≤ w.heap.size) : Below B w w' :=
  k.below (fun g e => (World.ownsRow.lt h g e).1) hB
/-- Where they lie. -/
theorem Txs.lay {w : World} {B : Nat} {v : Value} {l : List ByteArray} (h : Txs w B v l) : (v = .slice none 0 0 ∧ l = []) ∨ ∃ g c, v = .slice (some ⟨g, 0, none⟩) l.length c ∧ B ≤ g ∧ LayS w g l l.length := by
  rcases h.2 with ⟨hn, h0⟩ | ⟨g, cap, cur, h1, h2, h3⟩
  · exact Or.inl ⟨hn, List.eq_nil_of_length_eq_zero h0⟩
  · refine Or.inr ⟨g, cap, h1, h2, ?_⟩
    subst h1
    refine ⟨(World.ownsRow.lt h g rfl).2, fun i hi => ?_, fun i a b => absurd b (by omega), fun o => World.ownsRow.frozenAt h o⟩
    have := World.ownsRow.cellAt h i (by omega)
    rw [this]
    simp [strAt, hi]
theorem Txs.strs {w : World} {B : Nat} {v : Value} {l : List ByteArray} (h : Txs w B v l) : ∃ a c, v = .slice a l.length c ∧ Strs w a l := by
  rcases h.lay with ⟨rfl, rfl⟩ | ⟨g, c, rfl, _, hl⟩
  · exact ⟨none, 0, rfl, Or.inl rfl⟩
  · exact ⟨_, c, rfl, hl.strs⟩
/-- A text is appended. -/
theorem wp_tx (w : World) {ops : Array Oper} {rest : List Oper} {o : Oper} {a : Act} {Q : Exit → Act → World → Prop} (hgd : o.guard = none) (s x : Operand)
    (ho : o.op = .call { callee := .builtin .append, args := #[s, x], argTypes := #[65, 65] })
    (B : Nat) (v : Value) (l : List ByteArray) (t : ByteArray) (hs : a.eval s = v) (hown : Txs w B v l) (g : Nat) (hx : a.eval x = .slice (some ⟨g, 0, none⟩) 1 1) (hc : w.cell? ⟨g, 0, none⟩ = some (.string t))
    (h63 : l.length ≤ 10000000) (hB : B ≤ w.heap.size)
    (h : ∀ v' w', Txs w' B v' (l ++ [t]) → Ext v v' w w' → wpList Tryz.prog ops Q rest (a.put o.dst v') w') : wpList Tryz.prog ops Q (o :: rest) a w := by
  obtain ⟨i0, hi, hz0, hz1, hz2⟩ := txs_parts
  refine wpList_append_own_at w hgd s x 65 ho B 9 i0 (.string ⟨#[]⟩) 1 16 Tryz.underlying65 hi hz0 hz1 hz2 rfl (by decide) v l.length (l.map Value.string) hs hown ⟨g, 0, none⟩ 1 1 [.string t] hx rfl (fun j u hj => ?_) (fun u hu => ?_) (by unfold maxLen; omega) (by omega) hB ?_
  · cases j with
    | zero => simp at hj; subst hj; simpa [Addr.add] using hc
    | succ j => simp at hj
  · simp at hu; subst hu; rfl
  · intro v' w' h1 h2 _ h4
    refine h v' w' ?_ ⟨h2, h4.imp id fun e => ⟨_, e, Nat.le_refl _⟩⟩
    unfold Txs
    rw [List.length_append, List.map_append]
    exact h1
end Go.Proofs.YtnkmdmmlpidcmaaGreatDoor
namespace Go.Proofs.YtnkmdmmlpidcmaaGreatDoor
open Go.ChangeShapes Go.WideShapes Go.ChangeAt Go.RowKit
set_option linter.unusedVariables false

theorem ret_bool {a b : Bool} (h : a = b) : Ending.returned (.bool a) = .returned (.bool b) := by rw [h]
theorem in_any (w : World) (n lo hi : Int) : Calls Tryz.prog 61 #[.int .i64 n, .int .i64 lo, .int .i64 hi] w fun e w' => e = .returned (.bool (decide (lo ≤ n ∧ n ≤ hi))) ∧ w' = w := by
  go_enter Tryz.func61, Tryz.ntmps61
  go_wp2
  all_goals
    go_ret
    exact ⟨ret_bool (by rw [Bool.eq_iff_iff]; simp; omega), rfl⟩

theorem all_false {α : Type} (f : α → Bool) (d : α) (l : List α) (k : Nat) (hk : k < l.length) (h : f (l.getD k d) = false) : l.all f = false := by
  rw [List.all_eq_false]
  refine ⟨l.getD k d, ?_, by rw [h]; decide⟩
  rw [show l.getD k d = l[k] by simp [hk]]
  exact List.getElem_mem hk
theorem all_true {α : Type} (f : α → Bool) (d : α) (l : List α) (h : ∀ k, k < l.length → f (l.getD k d) = true) : l.all f = true := by
  rw [List.all_eq_true]
  intro x hx
  obtain ⟨k, hk, rfl⟩ := List.getElem_of_mem hx
  have := h k hk
  rw [show l.getD k d = l[k] by simp [hk]] at this
  exact this
end Go.Proofs.YtnkmdmmlpidcmaaGreatDoor
namespace Go.Proofs.YtnkmdmmlpidcmaaGreatDoor
open Go.ChangeShapes Go.WideShapes Go.ChangeAt Go.RowKit
set_option linter.unusedVariables false

def letB (c : Int) : Bool := decide ((97 ≤ c ∧ c ≤ 122) ∨ (65 ≤ c ∧ c ≤ 90))
def firstB (c : Int) : Bool := decide ((97 ≤ c ∧ c ≤ 122) ∨ (65 ≤ c ∧ c ≤ 90) ∨ c = 95)
def digB (c : Int) : Bool := decide (48 ≤ c ∧ c ≤ 57)

theorem sletter (w : World) (c : Int) (h0 : 0 ≤ c) (h1 : c ≤ 255) : Calls Tryz.prog 120 #[.int .u8 c] w fun e w' => e = .returned (.bool (firstB c)) ∧ w' = w := by
  go_enter Tryz.func120, Tryz.ntmps120
  go_wp2
  all_goals
    go_ret
    exact ⟨ret_bool (by rw [Bool.eq_iff_iff]; simp [firstB]; omega), rfl⟩
theorem iletter (w : World) (c : Int) (h0 : 0 ≤ c) (h1 : c ≤ 255) : Calls Tryz.prog 161 #[.int .u8 c] w fun e w' => e = .returned (.bool (letB c)) ∧ w' = w := by
  go_enter Tryz.func161, Tryz.ntmps161
  go_wp2
  all_goals
    go_ret
    exact ⟨ret_bool (by rw [Bool.eq_iff_iff]; simp [letB]; omega), rfl⟩
theorem sdigit (w : World) (c : Int) (h0 : 0 ≤ c) (h1 : c ≤ 255) : Calls Tryz.prog 146 #[.int .u8 c] w fun e w' => e = .returned (.bool (digB c)) ∧ w' = w := by
  go_enter Tryz.func146, Tryz.ntmps146
  go_wp2
  all_goals
    go_ret
    exact ⟨ret_bool (by rw [Bool.eq_iff_iff]; simp [digB]; omega), rfl⟩
theorem idigit (w : World) (c : Int) (h0 : 0 ≤ c) (h1 : c ≤ 255) : Calls Tryz.prog 132 #[.int .u8 c] w fun e w' => e = .returned (.bool (digB c)) ∧ w' = w := by
  go_enter Tryz.func132, Tryz.ntmps132
  go_wp2
  all_goals
    go_ret
    exact ⟨ret_bool (by rw [Bool.eq_iff_iff]; simp [digB]; omega), rfl⟩

/-- The byte at i. -/
def bt (s : ByteArray) (i : Nat) : Int := if h : i < s.size then (s[i].toNat : Int) else 0
theorem bt_of (s : ByteArray) (i : Nat) (h : i < s.size) : bt s i = (s[i].toNat : Int) := by simp [bt, h]
theorem bt_bd (s : ByteArray) (i : Nat) : 0 ≤ bt s i ∧ bt s i ≤ 255 := by
  unfold bt
  split
  · rename_i h; have := UInt8.toNat_lt s[i]; omega
  · omega
theorem size_toList (s : ByteArray) : s.toList.length = s.size := by rw [ByteArray.toList_eq]; exact Array.length_toList
theorem ne_nil {s : ByteArray} (h : 0 < s.size) : ¬ s.toList = [] := by
  intro e; have := size_toList s; rw [e] at this; simp at this; omega
theorem ne_emp {s : ByteArray} (h : 0 < s.size) : s.toList.isEmpty = false := by
  have := ne_nil h
  cases hl : s.toList with
  | nil => exact absurd hl this
  | cons => rfl
theorem empty_of {s : ByteArray} (h : s.size = 0) : s = ⟨#[]⟩ := ByteArray.ext (Array.eq_empty_of_size_eq_zero h)
end Go.Proofs.YtnkmdmmlpidcmaaGreatDoor
namespace Go.Proofs.YtnkmdmmlpidcmaaGreatDoor
open Go.ChangeShapes Go.WideShapes Go.ChangeAt Go.RowKit
set_option linter.unusedVariables false

def markL (K n : Nat) : List ByteArray := (List.range n).map fun i => markT (K + i)
theorem markL_len (K n : Nat) : (markL K n).length = n := by simp [markL]
theorem markL_at (K n i : Nat) (h : i < n) : strAt (markL K n) i = markT (K + i) := by simp [strAt, markL, h]
theorem grown_refl (w : World) (r : Option Nat) : w.grownBy w r := ⟨rfl, rfl, rfl, Nat.le_refl _, fun _ _ _ => rfl⟩
theorem grown_nw {a b c : World} {r : Option Nat} (h : a.grownBy b r) (k : Nw b c) : a.grownBy c r :=
  ⟨(Below.os k).trans h.os, (Below.tape k).trans h.tape, (Below.output k).trans h.output, Nat.le_trans h.size (Below.size k), fun i hi hne => (Below.block k i (Nat.lt_of_lt_of_le hi h.size)).trans (h.block i hi hne)⟩
theorem grown_set {a b : World} {g : Nat} (h : a.grownBy b (some g)) (o : Nat) (v : Value) : a.grownBy (b.setCell ⟨g, o, none⟩ v) (some g) :=
  ⟨h.os, h.tape, h.output, by simpa [World.setCell] using h.size, fun i hi hne => by
    rw [Below.heap_setCell _ _ _ _ (by intro e; apply hne; rw [e])]
    exact h.block i hi hne⟩
theorem grown_below {a b : World} {g B : Nat} (h : a.grownBy b (some g)) (hg : B ≤ g) (hB : B ≤ a.heap.size) : Below B a b :=
  ⟨h.os, h.tape, h.output, h.size, fun i hi => h.block i (by omega) (by intro e; injection e; omega)⟩
theorem Strs.grown {w w' : World} {b off g : Nat} {l : List ByteArray} (h : Strs w (some ⟨b, off, none⟩) l) (k : w.grownBy w' (some g)) (hne : b ≠ g) : Strs w' (some ⟨b, off, none⟩) l := by
  rcases h with h | ⟨b', off', e, hb, hc⟩
  · exact Or.inl h
  · injection e with e; injection e with e1 e2; subst e1 e2
    refine Or.inr ⟨b, off, rfl, Nat.lt_of_lt_of_le hb k.size, fun i hi => ?_⟩
    exact (World.cell?_of_block (w := w) (a := ⟨b, off + i, none⟩) (k.block b hb (by intro e; injection e; omega))).trans (hc i hi)
/-- A row of texts of which the first j bear marks. -/
def MkTo (w : World) (g K n j : Nat) : Prop :=
  g < w.heap.size ∧ (∀ i, i < j → w.cell? ⟨g, i, none⟩ = some (.string (markT (K + i)))) ∧ (∀ i, j ≤ i → i < n → ∃ s, w.cell? ⟨g, i, none⟩ = some (.string s)) ∧ ∀ o, w.frozen? ⟨g, o, none⟩ = false
theorem MkTo.nw {w w' : World} {g K n j : Nat} (h : MkTo w g K n j) (k : Nw w w') : MkTo w' g K n j :=
  ⟨Nat.lt_of_lt_of_le h.1 (Below.size k), fun i hi => ((bcell k).1 _ _ h.1).trans (h.2.1 i hi), fun i a b => by obtain ⟨s, e⟩ := h.2.2.1 i a b; exact ⟨s, ((bcell k).1 _ _ h.1).trans e⟩, fun o => ((bcell k).2 _ _ h.1).trans (h.2.2.2 o)⟩
theorem MkTo.step {w : World} {g K n j : Nat} (h : MkTo w g K n j) (hj : j < n) : MkTo (w.setCell ⟨g, j, none⟩ (.string (markT (K + j)))) g K n (j + 1) := by
  obtain ⟨h1, h2, h3, h4⟩ := h
  obtain ⟨s0, c0⟩ := h3 j (Nat.le_refl _) hj
  have far : ∀ o, o ≠ j → (w.setCell ⟨g, j, none⟩ (.string (markT (K + j)))).cell? ⟨g, o, none⟩ = w.cell? ⟨g, o, none⟩ := by
    intro o a
    rw [World.cell?_setCell_other _ _ _ _ (fun h => by injection h; omega)]
  refine ⟨by simpa [World.setCell] using h1, fun i hi => ?_, fun i a b => ?_, fun o => by rw [World.frozen?_setCell]; exact h4 o⟩
  · by_cases e : i = j
    · subst e; exact World.cell?_setCell_same w ⟨g, i, none⟩ _ c0
    · rw [far i e]; exact h2 i (by omega)
  · rw [far i (by omega)]; exact h3 i (by omega) b
theorem MkTo.lay {w : World} {g K n : Nat} (h : MkTo w g K n n) : LayS w g (markL K n) n :=
  ⟨h.1, fun i hi => by rw [markL_at K n i hi]; exact h.2.1 i hi, fun i a b => by rw [markL_len] at b; omega, h.2.2.2⟩
set_option maxHeartbeats 1000000 in
theorem markS_any (w : World) (g c K : Nat) (l : List ByteArray) (hl : l.length ≤ 1048576) (hK : 1 ≤ K) (hK2 : K ≤ 50000000) (h : LayS w g l l.length) :
    Calls Tryz.prog 117 #[.slice (some ⟨g, 0, none⟩) l.length c, .int .i64 (K : Int)] w fun e w' => e = .returned (.int .i64 ((K + l.length : Nat) : Int)) ∧ w.grownBy w' (some g) ∧ LayS w' g (markL K l.length) l.length := by
  have HS : Hid (MkTo w g K l.length 0) := ⟨h.1, fun i hi => absurd hi (by omega), fun i _ b => ⟨_, h.2.1 i b⟩, h.2.2.2⟩
  clear h
  go_enter Tryz.func117, Tryz.ntmps117
  go_wp2
  go_loopw [1, 5] (fun x i wr => ∃ j : Nat, j ≤ l.length ∧ i = .int .i64 j ∧ x = .int .i64 ((K + j : Nat) : Int) ∧ w.grownBy wr (some g) ∧ MkTo wr g K l.length j) (fun _ i _ => l.length - (intOf i).toNat)
  case atStart => exact ⟨0, Nat.zero_le _, rfl, rfl, grown_refl _ _, HS.out⟩
  case round =>
    obtain ⟨j, hj, rfl, rfl, hw, hm⟩ := hrel
    have HW : Hid (w.grownBy wr (some g)) := hw
    have HM : Hid (MkTo wr g K l.length j) := hm
    clear hw hm
    by_cases hlt : j < l.length
    · obtain ⟨s0, c0⟩ := HM.out.2.2.1 j (Nat.le_refl _) hlt
      have hf0 := HM.out.2.2.2
      have hg0 := HM.out.1
      go_wp2_with (go_at_call 55; refine Calls.mono (markText_any _ (K + j) (by omega) (by omega)) ?_; rintro e w1 ⟨rfl, k1⟩; have d0 := ((bcell k1).1 _ j hg0).trans c0; have df : ∀ o, w1.frozen? ⟨g, o, none⟩ = false := fun o => ((bcell k1).2 _ o hg0).trans (hf0 o))
      go_roundw
      case rel => exact ⟨j + 1, by omega, by go_num, by go_num, grown_set (grown_nw HW.out k1) _ _, (HM.out.nw k1).step hlt⟩
      case measure => simp [intOf]; omega
    · have e : j = l.length := by omega
      subst e
      go_wp2
      go_ret
      exact ⟨rfl, HW.out, HM.out.lay⟩
set_option maxHeartbeats 4000000 in
theorem heldS_any (w : World) (g c K n : Nat) (hl : n ≤ 1048576) (hK : 1 ≤ K) (hK2 : K ≤ 50000000) (h : LayS w g (markL K n) n) :
    Calls Tryz.prog 118 #[.slice (some ⟨g, 0, none⟩) n c, .int .i64 (K : Int)] w fun e w' => e = .returned (.int .i64 ((K + n : Nat) : Int)) ∧ Nw w w' := by
  have HS : Hid (LayS w g (markL K n) n) := h
  clear h
  go_enter Tryz.func118, Tryz.ntmps118
  go_wp2
  go_loopw [1, 5] (fun x i wr => ∃ j : Nat, j ≤ n ∧ i = .int .i64 j ∧ x = .int .i64 ((K + j : Nat) : Int) ∧ Nw w wr) (fun _ i _ => n - (intOf i).toNat)
  case atStart => exact ⟨0, Nat.zero_le _, rfl, rfl, Below.refl _ _⟩
  case round =>
    obtain ⟨j, hj, rfl, rfl, hw⟩ := hrel
    by_cases hlt : j < n
    · have hs := HS.out.nw hw
      have c0 := hs.2.1 j hlt
      have hg0 := hs.1
      rw [markL_at K n j hlt] at c0
      have HW : Hid (Nw w wr) := hw
      clear hw hs
      have hg1 : g < wr.drew.heap.size := hg0
      have C1 : wr.drew.cell? ⟨g, j, none⟩ = some (.string (markT (K + j))) := c0
      go_wp2
      go_region_with (go_at_call 55; refine Calls.mono (markText_any _ (K + j) (by omega) (by omega)) ?_; rintro e w1 ⟨rfl, k1⟩; have d0 := ((bcell k1).1 _ j hg1).trans C1)
      all_goals
        go_wp2
        go_roundw
        case rel => exact ⟨j + 1, by omega, by go_num, by go_num, HW.out.trans k1.drw⟩
        case measure => simp [intOf]; omega
    · have e : j = n := by omega
      subst e
      have HW : Hid (Nw w wr) := hw
      clear hw
      go_wp2
      go_ret
      exact ⟨rfl, HW.out⟩
end Go.Proofs.YtnkmdmmlpidcmaaGreatDoor
