/-
  A match is read by the program; each theorem names its conditions.
  The books of the fixed codes, on lists; each theorem names its conditions.
  Lists of numbers of the call's own, to which numbers are appended; and what the laws' helpers do that hold two such lists against each other, mark one and look for the marks; each theorem names its conditions.
  The program's books of codes: what bookOf makes; each theorem names its conditions.
-/
import Derived.Test.YtaeicgfebeliiaaGreatDoorJAQ
import Derived.Test.YtaeicgfebeliiaaGreatDoorJAE
import Derived.Test.YtaeicgfebeliiaaGreatDoorJAF
import Derived.Test.YtaeicgfebeliiaaGreatDoorJAD
import Derived.Test.YtaeicgfebeliiaaGreatDoorJAG
namespace Go.Proofs.YtaeicgfebeliiaaGreatDoor
open Go.ChangeShapes Go.WideShapes Go.ChangeAt Go.RowKit
set_option linter.unusedVariables false

theorem Tabs.gr {w w' : World} {S : Nat} (h : Tabs w) (k : Gr S w w') (hS : 4 ≤ S) (hlt : S < w.heap.size) : Tabs w' := h.below (k.below (by omega)) hS
set_option maxHeartbeats 4000000 in
theorem takeMatch_any (w : World) (S b off cap : Nat) (ds : List Nat) (t : Nat) (cn : Nat → Nat) (g cp : Nat) (sy : List Nat) (c L k kd : Nat) (hl : ds.length ≤ 100000) (h8 : ∀ d ∈ ds, d < 256) (hcn : ∀ l, cn l ≤ 300) (hF : Fnd cn sy c L kd) (hc : c < 2 ^ L) (hs : Src w S b off cap ds t) (hb : b < w.heap.size) (hg : SyAt w g sy) (hgS : g ≠ S) (hT : Tabs w) (hS4 : 4 ≤ S) (hk : k ≤ 28) (hkd : kd ≤ 29) (ht : t + LE k + L + DE kd ≤ 8 * ds.length) (hbt : ∀ i, i < L → btA ds (t + LE k + i) = (codeOf c L).getD i 0) :
    Calls Tryz.prog 107 #[.iface 86 (.pointer (some ⟨S, 0, none⟩)), .int .i64 ((257 + k : Nat) : Int), bookV cn g sy.length cp] w fun e w' => e = .returned (.tuple #[.int .i64 ((LB k + rdN ds t (LE k) : Nat) : Int), .int .i64 ((DB kd + rdN ds (t + LE k + L) (DE kd) : Nat) : Int), .int .i64 0]) ∧ Src w' S b off cap ds (t + LE k + L + DE kd) ∧ Gr S w w' := by
  have hle := (LB_bd k (by omega)).2.2
  have hlb := (LB_bd k (by omega)).2.1
  have hde := (DB_bd kd (by omega)).2.2
  have hdb := (DB_bd kd (by omega)).2.1
  have hpow : ∀ n m v : Nat, n ≤ m → v < 2 ^ n → v < 2 ^ m := fun n m v h1 h2 => Nat.lt_of_lt_of_le h2 (Nat.pow_le_pow_right (by omega) h1)
  have hm1 : rdN ds t (LE k) < 32 := hpow _ 5 _ hle (rdN_lt _ _ _)
  have hm2 : rdN ds (t + LE k + L) (DE kd) < 8192 := hpow _ 13 _ hde (rdN_lt _ _ _)
  unfold bookV
  obtain ⟨W0, hW⟩ : ∃ W, w.alloc (.cells #[.int .i64 (cn 0 : Int), .int .i64 (cn 1 : Int), .int .i64 (cn 2 : Int), .int .i64 (cn 3 : Int), .int .i64 (cn 4 : Int), .int .i64 (cn 5 : Int), .int .i64 (cn 6 : Int), .int .i64 (cn 7 : Int), .int .i64 (cn 8 : Int), .int .i64 (cn 9 : Int), .int .i64 (cn 10 : Int), .int .i64 (cn 11 : Int), .int .i64 (cn 12 : Int), .int .i64 (cn 13 : Int), .int .i64 (cn 14 : Int), .int .i64 (cn 15 : Int), .slice (some ⟨g, 0, none⟩) sy.length cp] 110) = W := ⟨_, rfl⟩
  have BK : Hid (BkAt W0 w.heap.size cn g sy.length cp) := by show BkAt _ _ _ _ _ _; rw [← hW]; exact BkAt.new _ _ _ _ _ _
  have NW : Hid (Nw w W0) := by show Nw _ _; rw [← hW]; exact (Below.refl _ _).alloc (Nat.le_refl _) _
  have S0 : Hid (Src W0 S b off cap ds t) := hs.nw NW.out hb
  have G0 : Hid (Gr S w W0) := Gr.of_nw NW.out
  have T0 : Hid (Tabs W0) := hT.gr G0.out hS4 hs.lt
  have Sy0 : Hid (SyAt W0 g sy) := hg.gr G0.out hgS
  have hBS : w.heap.size ≠ S := by have := hs.lt; omega
  have hb0 : b < W0.heap.size := Nat.lt_of_lt_of_le hb G0.out.size
  have HW : Hid (_ = W0) := hW
  have HF : Hid _ := hF
  have HBT : Hid _ := hbt
  clear hs hg hT hW hF hbt hpow
  obtain ⟨a1, ha1⟩ : ∃ a, LE k = a := ⟨_, rfl⟩
  obtain ⟨a2, ha2⟩ : ∃ a, DE kd = a := ⟨_, rfl⟩
  obtain ⟨b1, hb1⟩ : ∃ a, LB k = a := ⟨_, rfl⟩
  obtain ⟨b2, hb2⟩ : ∃ a, DB kd = a := ⟨_, rfl⟩
  have q1 := T0.out.2.1 k (by omega)
  rw [ha1] at q1 hle ht hm1 hm2 HBT ⊢
  rw [ha2] at hde ht hm2 ⊢
  rw [hb1] at hlb ⊢
  rw [hb2] at hdb ⊢
  have A2 : Hid (DE kd = a2) := ha2
  have B1 : Hid (LB k = b1) := hb1
  have B2 : Hid (DB kd = b2) := hb2
  clear ha1 ha2 hb1 hb2
  go_enter Tryz.func107, Tryz.ntmps107
  go_upto_region 4 with fail
  rw [HW.out]
  go_wp2_with fail
  refine (takeNumber_any W0 S b off cap ds t a1 hl h8 (by omega) S0.out (by omega)).mono ?_
  rintro e w2 ⟨rfl, s2, g2⟩
  obtain ⟨m1, hm⟩ : ∃ m, rdN ds t a1 = m := ⟨_, rfl⟩
  rw [hm] at hm1 ⊢
  have M1 : Hid (_ = m1) := hm
  have S2 : Hid (Src w2 S b off cap ds (t + a1)) := s2
  have G2 : Hid (Gr S w w2) := G0.out.trans g2
  have T2 : Hid (Tabs w2) := T0.out.gr g2 hS4 S0.out.lt
  have Sy2 : Hid (SyAt w2 g sy) := Sy0.out.gr g2 hgS
  have hBK := BK.out.gr g2 hBS
  have hb2 : b < w2.heap.size := Nat.lt_of_lt_of_le hb0 g2.size
  have q0 := T2.out.1 k (by omega)
  rw [B1.out] at q0
  have c0 := hBK.cnt 0 (by omega)
  have c1 := hBK.cnt 1 (by omega)
  have c2 := hBK.cnt 2 (by omega)
  have c3 := hBK.cnt 3 (by omega)
  have c4 := hBK.cnt 4 (by omega)
  have c5 := hBK.cnt 5 (by omega)
  have c6 := hBK.cnt 6 (by omega)
  have c7 := hBK.cnt 7 (by omega)
  have c8 := hBK.cnt 8 (by omega)
  have c9 := hBK.cnt 9 (by omega)
  have c10 := hBK.cnt 10 (by omega)
  have c11 := hBK.cnt 11 (by omega)
  have c12 := hBK.cnt 12 (by omega)
  have c13 := hBK.cnt 13 (by omega)
  have c14 := hBK.cnt 14 (by omega)
  have c15 := hBK.cnt 15 (by omega)
  have c16 := hBK.syc
  clear s2 g2 q1 hm hBK
  go_wp2_with fail
  have HY := takeSymbol_any w2 S b off cap ds (t + a1) cn g cp sy c L kd hl h8 hcn HF.out hc S2.out hb2 Sy2.out hgS (by omega) HBT.out
  unfold bookV at HY
  refine Calls.mono HY ?_
  clear HY c0 c1 c2 c3 c4 c5 c6 c7 c8 c9 c10 c11 c12 c13 c14 c15 c16 q0
  rintro e w3 ⟨rfl, s3, g3⟩
  have S3 : Hid (Src w3 S b off cap ds (t + a1 + L)) := s3
  have G3 : Hid (Gr S w w3) := G2.out.trans g3
  have T3 : Hid (Tabs w3) := T2.out.gr g3 hS4 S2.out.lt
  have q3 := T3.out.2.2.2.1 kd (by omega)
  rw [A2.out] at q3
  clear s3 g3
  go_wp2_with fail
  refine (takeNumber_any w3 S b off cap ds (t + a1 + L) a2 hl h8 (by omega) S3.out (by omega)).mono ?_
  rintro e w4 ⟨rfl, s4, g4⟩
  obtain ⟨m2, hm⟩ : ∃ m, rdN ds (t + a1 + L) a2 = m := ⟨_, rfl⟩
  rw [hm] at hm2 ⊢
  have M2 : Hid (_ = m2) := hm
  have S4 : Hid (Src w4 S b off cap ds (t + a1 + L + a2)) := s4
  have G4 : Hid (Gr S w w4) := G3.out.trans g4
  have T4 : Hid (Tabs w4) := T3.out.gr g4 hS4 S3.out.lt
  have q2 := T4.out.2.2.1 kd (by omega)
  rw [B2.out] at q2
  clear s4 g4 q3 hm
  go_wp2
  go_region
  go_wp2
  go_returns
  exact ⟨by rw [M1.out, M2.out, Int.natCast_add, Int.natCast_add]; rfl, S4.out.drew 1, G4.out.trans (gr_dn _ _ 1)⟩
end Go.Proofs.YtaeicgfebeliiaaGreatDoor
namespace Go.Proofs.YtaeicgfebeliiaaGreatDoor
open Go.ChangeShapes Go.WideShapes Go.ChangeAt Go.RowKit
set_option linter.unusedVariables false

/-- The first n symbols that have the length l. -/
def ofLen (xs : List Int) (l n : Nat) : List Nat := (List.range n).filter (fun k => decide (xs.getD k 0 = (l : Int)))
theorem ofLen_yes (xs : List Int) (l n : Nat) (h : xs.getD n 0 = (l : Int)) : ofLen xs l (n + 1) = ofLen xs l n ++ [n] := by
  unfold ofLen; rw [List.range_succ, List.filter_append]; congr 1; simp only [List.filter_cons, List.filter_nil, h, decide_true, if_true]
theorem ofLen_no (xs : List Int) (l n : Nat) (h : xs.getD n 0 ≠ (l : Int)) : ofLen xs l (n + 1) = ofLen xs l n := by
  unfold ofLen; rw [List.range_succ, List.filter_append]; simp only [List.filter_cons, List.filter_nil, decide_eq_false h]; simp
/-- The symbols of the lengths 1 .. l. -/
def booked (xs : List Int) : Nat → List Nat
  | 0 => []
  | l + 1 => booked xs l ++ ofLen xs (l + 1) xs.length
def fiveL : List Int := List.replicate 32 5
set_option maxRecDepth 100000 in
theorem booked_fixed : booked fixedL 15 = syF := by decide +kernel
theorem booked_five : booked fiveL 15 = syD := by decide +kernel
set_option maxRecDepth 100000 in
theorem cn_fixed : (List.range 16).all (fun l => decide (cn fixedL 288 l = (cnF l : Int))) = true := by decide +kernel
theorem cn_five : (List.range 16).all (fun l => decide (cn fiveL 32 l = (cnD l : Int))) = true := by decide +kernel
end Go.Proofs.YtaeicgfebeliiaaGreatDoor
namespace Go.Proofs.YtaeicgfebeliiaaGreatDoor
open Go.ChangeShapes Go.WideShapes Go.ChangeAt Go.RowKit
set_option linter.unusedVariables false

theorem ins_parts : ∃ i, Tryz.prog.info? 3 = some i ∧ i.zero = some (.int .i64 0) ∧ i.size = 1 ∧ i.bytes = 8 := by
  have h : (Tryz.prog.info? 3).map (fun i => (i.zero, i.size, i.bytes)) = some (some (.int .i64 0), 1, 8) := by kernel_rfl
  obtain ⟨i, hi, hzz⟩ := Option.map_eq_some_iff.1 h
  simp only [Prod.mk.injEq] at hzz
  exact ⟨i, hi, hzz⟩
/-- The numbers l in a list of the call's own, nil or in a block from B on. -/
def Ins (w : World) (B : Nat) (v : Value) (l : List Int) : Prop := w.ownsRow B 3 1 v l.length (l.map (Value.int .i64))
theorem Ins.nil (w : World) (B : Nat) : Ins w B (.slice none 0 0) [] := World.ownsRow_nil w B _ 1
theorem Ins.nw {w w' : World} {B : Nat} {v : Value} {l : List Int} (h : Ins w B v l) (k : Nw w w') : Ins w' B v l :=
  World.ownsRow.kept h (row := none) ⟨Below.os k, Below.tape k, Below.output k, Below.size k, fun b hb _ => Below.block k b hb⟩ (by cases hv : v.ownBlock <;> simp)
theorem Ins.below {w w' : World} {B : Nat} {v v' : Value} {l : List Int} (h : Ins w B v l) (k : Ext v v' w w') (hB : B ≤ w.heap.size) : Below B w w' :=
  k.below (fun g e => (World.ownsRow.lt h g e).1) hB
def intAt (l : List Int) (i : Nat) : Int := l.getD i 0
/-- The numbers l lie in the block g. -/
def LayI (w : World) (g : Nat) (l : List Int) : Prop :=
  g < w.heap.size ∧ (∀ i, i < l.length → w.cell? ⟨g, i, none⟩ = some (.int .i64 (intAt l i))) ∧ ∀ o, w.frozen? ⟨g, o, none⟩ = false
theorem LayI.nw {w w' : World} {g : Nat} {l : List Int} (h : LayI w g l) (k : Nw w w') : LayI w' g l :=
  ⟨Nat.lt_of_lt_of_le h.1 (Below.size k), fun i hi => ((bcell k).1 _ _ h.1).trans (h.2.1 i hi), fun o => ((bcell k).2 _ _ h.1).trans (h.2.2 o)⟩
/-- Where they lie. -/
theorem Ins.lay {w : World} {B : Nat} {v : Value} {l : List Int} (h : Ins w B v l) : (v = .slice none 0 0 ∧ l = []) ∨ ∃ g c, v = .slice (some ⟨g, 0, none⟩) l.length c ∧ B ≤ g ∧ LayI w g l := by
  rcases h.2 with ⟨hn, h0⟩ | ⟨g, cap, cur, h1, h2, h3⟩
  · exact Or.inl ⟨hn, List.eq_nil_of_length_eq_zero h0⟩
  · refine Or.inr ⟨g, cap, h1, h2, ?_⟩
    subst h1
    refine ⟨(World.ownsRow.lt h g rfl).2, fun i hi => ?_, fun o => World.ownsRow.frozenAt h o⟩
    have := World.ownsRow.cellAt h i (by omega)
    rw [this]
    simp [intAt, hi]
/-- Nil, or a block of its own. -/
def Lay0 (w : World) (B : Nat) (v : Value) (l : List Int) : Prop := (v = .slice none 0 0 ∧ l = []) ∨ ∃ g c, v = .slice (some ⟨g, 0, none⟩) l.length c ∧ B ≤ g ∧ LayI w g l
/-- A number is appended. -/
theorem wp_in (w : World) {ops : Array Oper} {rest : List Oper} {o : Oper} {a : Act} {Q : Exit → Act → World → Prop} (hgd : o.guard = none) (s x : Operand)
    (ho : o.op = .call { callee := .builtin .append, args := #[s, x], argTypes := #[54, 54] })
    (B : Nat) (v : Value) (l : List Int) (t : Int) (hs : a.eval s = v) (hown : Ins w B v l) (g : Nat) (hx : a.eval x = .slice (some ⟨g, 0, none⟩) 1 1) (hc : w.cell? ⟨g, 0, none⟩ = some (.int .i64 t))
    (h63 : l.length ≤ 10000000) (hB : B ≤ w.heap.size)
    (h : ∀ v' w', Ins w' B v' (l ++ [t]) → Ext v v' w w' → wpList Tryz.prog ops Q rest (a.put o.dst v') w') : wpList Tryz.prog ops Q (o :: rest) a w := by
  obtain ⟨i0, hi, hz0, hz1, hz2⟩ := ins_parts
  refine wpList_append_own_at w hgd s x 54 ho B 3 i0 (.int .i64 0) 1 8 Tryz.underlying54 hi hz0 hz1 hz2 rfl (by decide) v l.length (l.map (Value.int .i64)) hs hown ⟨g, 0, none⟩ 1 1 [.int .i64 t] hx rfl (fun j u hj => ?_) (fun u hu => ?_) (by unfold maxLen; omega) (by omega) hB ?_
  · cases j with
    | zero => simp at hj; subst hj; simpa [Addr.add] using hc
    | succ j => simp at hj
  · simp at hu; subst hu; rfl
  · intro v' w' h1 h2 _ h4
    refine h v' w' ?_ ⟨h2, h4.imp id fun e => ⟨_, e, Nat.le_refl _⟩⟩
    unfold Ins
    rw [List.length_append, List.map_append]
    exact h1
end Go.Proofs.YtaeicgfebeliiaaGreatDoor
namespace Go.Proofs.YtaeicgfebeliiaaGreatDoor
open Go.ChangeShapes Go.WideShapes Go.ChangeAt Go.RowKit
set_option linter.unusedVariables false

/-- A book that is being made, in the block B: the symbols l lie behind it. -/
structure BkB (B : Nat) (w : World) (T : Nat → Int) (v : Value) (l : List Int) : Prop where
  cnt : ∀ k, k < 16 → w.cell? ⟨B, k, none⟩ = some (.int .i64 (T k))
  c16 : w.cell? ⟨B, 16, none⟩ = some v
  free : ∀ o, w.frozen? ⟨B, o, none⟩ = false
  own : Ins w (B + 1) v l
  row : ∃ cur : Array Value, cur.size = 17 ∧ w.heap[B]? = some (.cells cur 110 (0, 0))
theorem BkB.lt {B : Nat} {w : World} {T : Nat → Int} {v : Value} {l : List Int} (h : BkB B w T v l) : B < w.heap.size := World.block_lt_of_cell? w ⟨B, 16, none⟩ h.c16
theorem BkB.ne {B : Nat} {w : World} {T : Nat → Int} {v : Value} {l : List Int} (h : BkB B w T v l) : v.ownBlock ≠ some B := fun e => by
  have := (World.ownsRow.lt h.own B e).1
  omega
theorem BkB.nw {B : Nat} {w w' : World} {T : Nat → Int} {v : Value} {l : List Int} (h : BkB B w T v l) (k : Nw w w') : BkB B w' T v l :=
  ⟨fun i hi => ((bcell k).1 _ _ h.lt).trans (h.cnt i hi), ((bcell k).1 _ _ h.lt).trans h.c16, fun o => ((bcell k).2 _ _ h.lt).trans (h.free o), h.own.nw k, by
    obtain ⟨cur, h1, h2⟩ := h.row
    exact ⟨cur, h1, (Below.block k B h.lt).trans h2⟩⟩
theorem BkB.new (w : World) (T : Nat → Int) : BkB w.heap.size (w.alloc (.cells #[.int .i64 (T 0), .int .i64 (T 1), .int .i64 (T 2), .int .i64 (T 3), .int .i64 (T 4), .int .i64 (T 5), .int .i64 (T 6), .int .i64 (T 7), .int .i64 (T 8), .int .i64 (T 9), .int .i64 (T 10), .int .i64 (T 11), .int .i64 (T 12), .int .i64 (T 13), .int .i64 (T 14), .int .i64 (T 15), .slice none 0 0] 110)) T (.slice none 0 0) [] := by
  refine ⟨fun l hl => ?_, by simp, fun o => World.frozen?_alloc_at _ _ _ _ rfl, Ins.nil _ _, ⟨_, rfl, heap_alloc_new w _⟩⟩
  rcases (show l = 0 ∨ l = 1 ∨ l = 2 ∨ l = 3 ∨ l = 4 ∨ l = 5 ∨ l = 6 ∨ l = 7 ∨ l = 8 ∨ l = 9 ∨ l = 10 ∨ l = 11 ∨ l = 12 ∨ l = 13 ∨ l = 14 ∨ l = 15 by omega) with rfl | rfl | rfl | rfl | rfl | rfl | rfl | rfl | rfl | rfl | rfl | rfl | rfl | rfl | rfl | rfl <;> simp
/-- What is there for the store. -/
theorem BkB.there {B : Nat} {w w' : World} {T : Nat → Int} {v v' : Value} {l : List Int} (h : BkB B w T v l) (k : Ext v v' w w') : w'.cell? ⟨B, 16, none⟩ = some v ∧ ∀ o, w'.frozen? ⟨B, o, none⟩ = false :=
  ⟨(Ext.cell k h.lt h.ne 16).trans h.c16, fun o => (World.frozen?_of_block (w := w) (a := ⟨B, o, none⟩) (k.1.block B h.lt (fun e => h.ne e.symm))).trans (h.free o)⟩
theorem BkB.put {B : Nat} {w w' : World} {T : Nat → Int} {v v' : Value} {l l' : List Int} (h : BkB B w T v l) (k : Ext v v' w w') (ho : Ins w' (B + 1) v' l') : BkB B (w'.setCell ⟨B, 16, none⟩ v') T v' l' ∧ Below B w (w'.setCell ⟨B, 16, none⟩ v') := by
  have hb := h.lt
  have hne2 : v'.ownBlock ≠ some B := Ext.apart k hb h.ne
  obtain ⟨t0, tf⟩ := h.there k
  refine ⟨⟨fun i hi => ?_, World.cell?_setCell_same w' ⟨B, 16, none⟩ _ t0, fun o => by rw [World.frozen?_setCell]; exact tf o, World.ownsRow.kept ho set_grown (Or.inr hne2), ?_⟩, ?_⟩
  · rw [World.cell?_setCell_other _ _ _ _ (fun e => by injection e; omega)]
    exact (Ext.cell k hb h.ne i).trans (h.cnt i hi)
  · obtain ⟨cur, h1, h2⟩ := h.row
    have h3 : w'.heap[B]? = some (.cells cur 110 (0, 0)) := (k.1.block B hb (fun e => h.ne e.symm)).trans h2
    rw [setCell_eq_setRow w' B 16 cur 110 (0, 0) v' h3]
    exact ⟨_, by simpa using h1, setRow_heap w' B cur _ 110 (0, 0) h3⟩
  · exact (k.below (fun g e => Nat.le_of_succ_le (World.ownsRow.lt h.own g e).1) (by omega)).setCell (Nat.le_refl _) _
theorem below_row {B g : Nat} {w0 w : World} (hb : Below B w0 w) (hBg : B ≤ g) (cs : Array Value) : Below B w0 (w.setRow g cs) :=
  ⟨hb.os, hb.tape, hb.output, by rw [setRow_size]; exact hb.size, fun k hk => by rw [setRow_other w g k cs (by omega)]; exact hb.block k hk⟩
theorem Ins.base {w : World} {B B' : Nat} {v : Value} {l : List Int} (h : Ins w B v l) (hB : B' ≤ B) : Ins w B' v l := by
  refine ⟨h.1, ?_⟩
  rcases h.2 with hn | ⟨g, cap, cur, h1, h2, h3⟩
  · exact Or.inl hn
  · exact Or.inr ⟨g, cap, cur, h1, by omega, h3⟩
theorem Ins.form {w : World} {B : Nat} {v : Value} {l : List Int} (h : Ins w B v l) : ∃ a c, v = .slice a l.length c := by
  rcases h.lay with ⟨rfl, rfl⟩ | ⟨g, c, rfl, _⟩
  · exact ⟨none, 0, rfl⟩
  · exact ⟨_, c, rfl⟩
theorem ofLen_le (xs : List Int) (l n : Nat) : (ofLen xs l n).length ≤ n := by
  unfold ofLen
  have := List.length_filter_le (fun k => decide (xs.getD k 0 = (l : Int))) (List.range n)
  rw [List.length_range] at this
  exact this
theorem booked_le (xs : List Int) (hx : xs.length ≤ 300) (l : Nat) : (booked xs l).length ≤ 300 * l := by
  induction l with
  | zero => exact Nat.le_refl _
  | succ l ih =>
    show (booked xs l ++ ofLen xs (l + 1) xs.length).length ≤ _
    have := ofLen_le xs (l + 1) xs.length
    rw [List.length_append]; omega
theorem ints_app (a b : List Nat) : ints (a ++ b) = ints a ++ ints b := by simp [ints]
set_option maxRecDepth 100000 in
set_option maxHeartbeats 8000000 in
theorem bookOf_any (w : World) (b cap : Nat) (zs : List Int) (hf : fit zs = true) (hb : b < w.heap.size) (hc : ∀ i, i < zs.length → w.cell? ⟨b, 0 + i, none⟩ = some (.int .i64 (zs.getD i 0))) (T : Nat → Int) (hT : ∀ k, T k = cn zs zs.length k) :
    Calls Tryz.prog 91 #[.slice (some ⟨b, 0, none⟩) zs.length cap] w fun e w' => ∃ v, e = .returned (.agg #[.int .i64 (T 0), .int .i64 (T 1), .int .i64 (T 2), .int .i64 (T 3), .int .i64 (T 4), .int .i64 (T 5), .int .i64 (T 6), .int .i64 (T 7), .int .i64 (T 8), .int .i64 (T 9), .int .i64 (T 10), .int .i64 (T 11), .int .i64 (T 12), .int .i64 (T 13), .int .i64 (T 14), .int .i64 (T 15), v]) ∧ Ins w' w.heap.size v (ints (booked zs 15)) ∧ Nw w w' := by
  have hl := fit_len hf
  have HF : Hid _ := hf
  have HC : Hid _ := hc
  have hTT : (fun k => cn zs zs.length k) = T := funext fun k => (hT k).symm
  have HCnt : ∀ W, b < W.heap.size → (∀ i, i < zs.length → W.cell? ⟨b, 0 + i, none⟩ = some (.int .i64 (zs.getD i 0))) → Calls Tryz.prog 95 #[.slice (some ⟨b, 0, none⟩) zs.length cap] W fun e w' => e = .returned (.agg #[.int .i64 (T 0), .int .i64 (T 1), .int .i64 (T 2), .int .i64 (T 3), .int .i64 (T 4), .int .i64 (T 5), .int .i64 (T 6), .int .i64 (T 7), .int .i64 (T 8), .int .i64 (T 9), .int .i64 (T 10), .int .i64 (T 11), .int .i64 (T 12), .int .i64 (T 13), .int .i64 (T 14), .int .i64 (T 15)]) ∧ Kp W w' := by
    intro W h1 h2
    have h := count_any W b 0 cap zs hf h1 h2
    rw [show tab 16 (cn zs zs.length) = tab 16 T from congrArg (tab 16) hTT, tab16] at h
    exact h
  have HK : Hid _ := HCnt
  clear hc hf HCnt hTT hT
  go_enter Tryz.func91, Tryz.ntmps91
  go_wp2_with fail
  refine Calls.mono (HK.out _ (by simp; omega) (fun i hi => by rw [World.cell?_alloc_past _ _ _ hb]; exact HC.out i hi)) ?_
  rintro e w2 ⟨rfl, k2⟩
  obtain ⟨R, hR⟩ : ∃ R, w.heap.size = R := ⟨_, rfl⟩
  have S2 : R < w2.heap.size := by have := k2.size; simp at this; omega
  have NW2 : Hid (Nw w w2) := Nw.trans ((Below.refl _ _).alloc (Nat.le_refl _) _) k2.nw
  have HRR : Hid (w.heap.size = R) := hR
  have r0 : ∃ Z : Array Value, Z.size = 17 ∧ w2.heap[R]? = some (.cells Z 110 (0, 0)) := by
    rw [← hR]
    refine ⟨_, ?_, (Below.block k2.nw w.heap.size (by simp)).trans (heap_alloc_new w _)⟩
    rfl
  have R0 : Hid _ := r0
  rw [hR]
  clear r0 hR k2
  obtain ⟨B, hB⟩ : ∃ B, w2.heap.size = B := ⟨_, rfl⟩
  obtain ⟨W3, hW3⟩ : ∃ W, w2.alloc (.cells #[.int .i64 (T 0), .int .i64 (T 1), .int .i64 (T 2), .int .i64 (T 3), .int .i64 (T 4), .int .i64 (T 5), .int .i64 (T 6), .int .i64 (T 7), .int .i64 (T 8), .int .i64 (T 9), .int .i64 (T 10), .int .i64 (T 11), .int .i64 (T 12), .int .i64 (T 13), .int .i64 (T 14), .int .i64 (T 15), .slice none 0 0] 110) = W := ⟨_, rfl⟩
  have BK : Hid (BkB B W3 T (.slice none 0 0) []) := by show BkB _ _ _ _ _; rw [← hW3, ← hB]; exact BkB.new _ _
  have NW3 : Hid (Nw w2 W3) := by show Nw _ _; rw [← hW3]; exact (Below.refl _ _).alloc (Nat.le_refl _) _
  have HW3 : Hid (_ = W3) := hW3
  have HBB : Hid (w2.heap.size = B) := hB
  have hRB : R < B := by omega
  have hbR : b < R := by rw [← HRR.out]; exact hb
  have HCW : Hid (∀ i, i < zs.length → W3.cell? ⟨b, i, none⟩ = some (.int .i64 (zs.getD i 0))) := fun i hi => by
    have h := HC.out i hi
    rw [Nat.zero_add] at h
    rw [(bcell NW3.out).1 b i (by rw [HBB.out]; omega), (bcell NW2.out).1 b i hb]; exact h
  clear hW3 S2
  go_wp2
  rw [HW3.out]
  have HBel0 : Hid (Below B W3 W3) := Below.refl _ _
  go_loopw [4] (fun i wr => ∃ (l : Nat) (v : Value), l ≤ 15 ∧ i = .int .i64 ((l + 1 : Nat) : Int) ∧ BkB B wr T v (ints (booked zs l)) ∧ Below B W3 wr) (fun i _ => 17 - (intOf i).toNat)
  case atStart => exact ⟨0, _, by omega, rfl, BK.out, HBel0.out⟩
  case round =>
    obtain ⟨l, v, hl15, rfl, bk, bel⟩ := hrel
    have HBK : Hid (BkB B wr T v (ints (booked zs l))) := bk
    have HBL : Hid (Below B W3 wr) := bel
    clear bk bel BK
    by_cases hlt : l < 15
    · have d15 : decide ((l : Int) + 1 ≤ 15) = true := by simp; omega
      generalize hwr : wr = w5 at *
      go_wp2
      go_loopw [16] (fun i wr => ∃ (n : Nat) (v : Value), n ≤ zs.length ∧ i = .int .i64 (n : Int) ∧ BkB B wr T v (ints (booked zs l ++ ofLen zs (l + 1) n)) ∧ Below B W3 wr) (fun i _ => zs.length - (intOf i).toNat)
      case atStart => exact ⟨0, v, Nat.zero_le _, rfl, by rw [show ofLen zs (l + 1) 0 = [] from rfl, List.append_nil]; exact HBK.out, HBL.out⟩
      case round =>
        clear HBK HBL hwr
        obtain ⟨n, v2, hn, rfl, bk2, bel2⟩ := hrel
        obtain ⟨sa, sc, rfl⟩ := Ins.form bk2.own
        have HBK : Hid _ := bk2
        have HBL : Hid (Below B W3 wr) := bel2
        have hBw := bk2.lt
        by_cases hn2 : n < zs.length
        · have c0 : wr.cell? ⟨b, n, none⟩ = some (.int .i64 (zs.getD n 0)) := by
            rw [bel2.cell (p := ⟨b, n, none⟩) (by show b < B; omega)]; exact HCW.out n hn2
          have c16 := bk2.c16
          clear bk2 bel2
          obtain ⟨x, hx⟩ : ∃ x, zs.getD n 0 = x := ⟨_, rfl⟩
          rw [hx] at c0
          by_cases hxl : x = ((l + 1 : Nat) : Int)
          · have HO : Hid (ofLen zs (l + 1) (n + 1) = ofLen zs (l + 1) n ++ [n]) := ofLen_yes zs (l + 1) n (by rw [hx]; exact hxl)
            have hlen : (ints (booked zs l ++ ofLen zs (l + 1) n)).length ≤ 10000000 := by
              rw [ints_len, List.length_append]
              have h1 := booked_le zs hl l
              have h2 := ofLen_le zs (l + 1) n
              omega
            have hq : (x == ((l + 1 : Nat) : Int)) = true := by rw [beq_iff_eq]; exact hxl
            have HE : Hid (ints (booked zs l ++ ofLen zs (l + 1) (n + 1)) = ints (booked zs l ++ ofLen zs (l + 1) n) ++ [(n : Int)]) := by
              show _ = _
              rw [HO.out, ← List.append_assoc, ints_app]; rfl
            have HB0 : ∀ o, Hid (Nw wr (wr.alloc o)) := fun o => (Below.refl _ _).alloc (Nat.le_refl _) o
            generalize ints (booked zs l ++ ofLen zs (l + 1) n) = L at *
            generalize ((l + 1 : Nat) : Int) = L1 at *
            clear hx hxl
            go_wp2_with (at_builtin; (refine wp_in _ rfl _ _ rfl (B + 1) _ L (n : Int) rfl (HBK.out.own.nw (HB0 _).out) _ rfl ?c1 hlen ?c3 ?_))
            case c1 => simp
            case c3 => exact Nat.le_trans hBw (Below.size (HB0 _).out)
            intro v' w' h1 h2
            have hbk := HBK.out.nw (HB0 (.cells #[.int .i64 (n : Int)] 3)).out
            obtain ⟨t0, tf⟩ := hbk.there h2
            obtain ⟨p1, p2⟩ := hbk.put h2 h1
            have P1 : Hid _ := p1
            have P2 : Hid (Below B W3 (w'.setCell ⟨B, 16, none⟩ v')) := HBL.out.trans ((Below.mono (HB0 _).out (by omega)).trans p2)
            obtain ⟨sa', sc', ev⟩ := Ins.form h1
            rw [show (L ++ [(n : Int)]).length = L.length + 1 by simp] at ev
            subst ev
            have tf16 := tf 16
            clear p1 p2 hbk tf h1 h2
            go_wp2
            go_roundw
            case rel => exact ⟨n + 1, _, by omega, by go_num, by rw [HE.out]; exact P1.out, P2.out⟩
            case measure => simp [intOf]; omega
          · have HO : Hid (ofLen zs (l + 1) (n + 1) = ofLen zs (l + 1) n) := ofLen_no zs (l + 1) n (by rw [hx]; exact hxl)
            have hq : (x == ((l + 1 : Nat) : Int)) = false := by rw [beq_eq_false_iff_ne]; exact hxl
            generalize ((l + 1 : Nat) : Int) = L1 at *
            clear hx hxl
            go_wp2
            go_roundw
            case rel => exact ⟨n + 1, _, by omega, by go_num, by rw [HO.out]; exact HBK.out, HBL.out⟩
            case measure => simp [intOf]; omega
        · have e : n = zs.length := by omega
          have HBK2 : Hid (BkB B wr T (.slice sa (ints (booked zs l ++ ofLen zs (l + 1) n)).length sc) (ints (booked zs (l + 1)))) := by
            show BkB _ _ _ _ _
            have h := HBK.out
            have e2 : booked zs (l + 1) = booked zs l ++ ofLen zs (l + 1) zs.length := rfl
            rw [e2, ← e]; exact h
          clear bk2 bel2
          subst e
          go_wp2
          go_roundw
          case rel => exact ⟨l + 1, _, by omega, by go_num, HBK2.out, HBL.out⟩
          case measure => simp [intOf]; omega
    · have e : l = 15 := by omega
      subst e
      obtain ⟨C, hCs, hCB⟩ := HBK.out.row
      have hv1 : v.oneCell' = true := by
        obtain ⟨sa, sc, rfl⟩ := Ins.form HBK.out.own; rfl
      have hC : C = #[Value.int .i64 (T 0), .int .i64 (T 1), .int .i64 (T 2), .int .i64 (T 3), .int .i64 (T 4), .int .i64 (T 5), .int .i64 (T 6), .int .i64 (T 7), .int .i64 (T 8), .int .i64 (T 9), .int .i64 (T 10), .int .i64 (T 11), .int .i64 (T 12), .int .i64 (T 13), .int .i64 (T 14), .int .i64 (T 15), v] := by
        apply Array.ext_getElem?
        intro j
        by_cases h16 : j < 16
        · have h := HBK.out.cnt j h16
          rw [cell_of_row wr B j C _ _ hCB] at h
          rw [h]
          rcases (show j = 0 ∨ j = 1 ∨ j = 2 ∨ j = 3 ∨ j = 4 ∨ j = 5 ∨ j = 6 ∨ j = 7 ∨ j = 8 ∨ j = 9 ∨ j = 10 ∨ j = 11 ∨ j = 12 ∨ j = 13 ∨ j = 14 ∨ j = 15 by omega) with rfl | rfl | rfl | rfl | rfl | rfl | rfl | rfl | rfl | rfl | rfl | rfl | rfl | rfl | rfl | rfl <;> rfl
        · by_cases h17 : j = 16
          · subst h17
            have h := HBK.out.c16
            rw [cell_of_row wr B 16 C _ _ hCB] at h
            rw [h]; rfl
          · rw [Array.getElem?_eq_none (by omega), Array.getElem?_eq_none (by show 17 ≤ j; omega)]
      have hC1 : C.all (·.oneCell') = true := by rw [hC]; simp [Value.oneCell'] <;> exact hv1
      obtain ⟨Z, hZs, hZ⟩ := R0.out
      have hZr : wr.heap[R]? = some (.cells Z 110 (0, 0)) := by
        rw [HBL.out.block R (by omega), Below.block NW3.out R (by rw [HBB.out]; omega)]; exact hZ
      have HRow : Hid _ := setRow_heap wr R Z C 110 (0, 0) hZr
      have HCC : Hid (C = _) := hC
      have HNW : Hid (Nw w (wr.setRow R C)) := by
        show Below w.heap.size w (wr.setRow R C)
        refine below_row (Below.trans NW2.out (Below.mono (Below.trans (NW3.out) (Below.mono HBL.out ?_)) ?_)) (by rw [HRR.out]; exact Nat.le_refl _) C
        · exact Nat.le_of_eq HBB.out
        · exact Below.size NW2.out
      have HIN : Hid (Ins (wr.setRow R C) w.heap.size v (ints (booked zs 15))) := by
        show Ins _ _ _ _
        refine Ins.base (B := B + 1) (World.ownsRow.kept HBK.out.own (row := some R) ⟨rfl, rfl, rfl, by rw [setRow_size]; exact Nat.le_refl _, fun i hi hne => setRow_other wr R i C (fun e => hne (by rw [e]))⟩ (Or.inr ?_)) (by rw [HRR.out]; omega)
        intro e
        have := (World.ownsRow.lt HBK.out.own R e).1
        omega
      have hiC : (Tryz.prog.info? 110).map (·.size) = some C.size := by rw [hCs]; kernel_rfl
      have hst := run_storeCells_from (P := Tryz.prog) R 110 C.toList 0 Z wr hZr (by rw [hZs, ← hCs]; simp) (fun u hu => Array.all_eq_true_iff_forall_mem.1 hC1 u (by simpa using hu))
      rw [List.take_zero, List.nil_append, Array.toArray_toList] at hst
      obtain ⟨W9, hW9⟩ : ∃ W, wr.setRow R C = W := ⟨_, rfl⟩
      rw [hW9] at hst HRow HNW HIN
      have HIC : Hid _ := hiC
      clear hC hv1 hZ hZr hC1 hW9
      go_wp2_with (refine wpList_load_row rfl 110 _ rfl B rfl 110 C _ _ hCB Tryz.underlying110 rfl hiC ?_)
      refine bodyPost_ret (v := .agg C) ?_ rfl ⟨v, ?_, HIN.out, HNW.out⟩
      · exact results_cell_row Tryz.results91 _ _ R 110 C (0, 0) _ rfl HRow.out Tryz.underlying110 rfl HIC.out
      · rw [HCC.out]
end Go.Proofs.YtaeicgfebeliiaaGreatDoor
