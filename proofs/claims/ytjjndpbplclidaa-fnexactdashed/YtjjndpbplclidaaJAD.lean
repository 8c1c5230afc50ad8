/-
  Points: whether they are fixed, by the specification; numbers that are all fixed, by the program; each theorem names its conditions.
  Lines in memory; whether their points are fixed and how many they are, of both; each theorem names its conditions.
  Worlds in which only some blocks have been written; each theorem names its conditions.
  Rows of lines: what the laws' helper does that marks one; each theorem names its conditions.
-/
import Derived.Test.YtjjndpbplclidaaJAB
import Derived.Test.YtjjndpbplclidaaJAC
import Derived.Test.YtjjndpbplclidaaJAA
namespace Go.Proofs.Ytjjndpbplclidaa
open Go.ChangeShapes Go.WideShapes Go.ChangeAt Go.RowKit
set_option linter.unusedVariables false

def ptB (p : Pnt) : Bool := fixB p.1 && fixB p.2
def ptsB (l : List Pnt) : Bool := l.all ptB
set_option maxHeartbeats 1000000 in
/-- The numbers zs, all fixed or not. -/
theorem iall_any (w : World) (b off c : Nat) (zs : List Int) (hl : zs.length ≤ 1048576) (hc : ∀ i, i < zs.length → w.cell? ⟨b, off + i, none⟩ = some (.int .i64 (zs.getD i 0))) :
    Calls Try.prog 71 #[.slice (some ⟨b, off, none⟩) zs.length c] w fun e w' => e = .returned (.bool (zs.all fixB)) ∧ w' = w := by
  obtain ⟨V, hV⟩ : ∃ V, zs.all fixB = V := ⟨_, rfl⟩
  rw [hV]
  have HV : Hid _ := hV
  have HC : Hid _ := hc
  clear hc hV
  go_enter Try.func71, Try.ntmps71
  go_wp2
  go_loop [7] (fun i => ∃ k : Nat, k ≤ zs.length ∧ i = .int .i64 k ∧ ∀ j, j < k → fixB (zs.getD j 0) = true) (fun i => zs.length - (intOf i).toNat)
  case atStart => exact ⟨0, Nat.zero_le _, rfl, fun j hj => absurd hj (by omega)⟩
  case round =>
    obtain ⟨k, hk, rfl, ha⟩ := hrel
    have HA : Hid _ := ha
    clear ha
    by_cases hlt : k < zs.length
    · have q := HC.out k hlt
      have hcall : Hid (∀ w, Calls Try.prog 83 #[.int .i64 (zs.getD k 0)] w fun e w' => e = .returned (.bool (fixB (zs.getD k 0))) ∧ w' = w) := fun w => igoodF _ w
      obtain ⟨x, hx⟩ : ∃ x, zs.getD k 0 = x := ⟨_, rfl⟩
      have HX : Hid (zs.getD k 0 = x) := hx
      rw [hx] at q hcall
      clear hx
      cases hf : fixB x with
      | true =>
        rw [hf] at hcall
        have HF : Hid (fixB x = true) := hf
        clear hf
        go_wp2_with fail
        refine (hcall.out _).mono ?_
        rintro e w1 ⟨rfl, rfl⟩
        go_wp2
        go_round
        case rel =>
          refine ⟨k + 1, by omega, by go_num, fun j hj => ?_⟩
          rcases Nat.lt_succ_iff_lt_or_eq.1 hj with h | h
          · exact HA.out j h
          · rw [h, HX.out]; exact HF.out
        case measure => simp [intOf]; omega
      | false =>
        rw [hf] at hcall
        have HF : Hid (V = false) := HV.out.symm.trans (all_false _ 0 zs k hlt (HX.out ▸ hf))
        clear hf
        go_wp2_with fail
        refine (hcall.out _).mono ?_
        rintro e w1 ⟨rfl, rfl⟩
        go_wp2
        go_ret
        exact ⟨ret_bool HF.out.symm, rfl⟩
    · have e : k = zs.length := by omega
      have HX : Hid (V = true) := HV.out.symm.trans (all_true _ 0 _ (fun j hj => HA.out j (by omega)))
      clear HA
      go_wp2
      go_ret
      exact ⟨ret_bool HX.out.symm, rfl⟩
theorem sgoodP (w : World) (x y : Int) : Calls Try.prog 68 #[.agg #[.int .i64 x, .int .i64 y]] w fun e w' => e = .returned (.bool (ptB (x, y))) ∧ Kp w w' := by
  have HX : Hid _ := fun w => sgoodF x w
  have HY : Hid _ := fun w => sgoodF y w
  have hv : ptB (x, y) = (fixB x && fixB y) := rfl
  rw [hv]
  clear hv
  generalize fixB x = bx at *
  generalize fixB y = by' at *
  cases bx with
  | false =>
    go_enter Try.func68, Try.ntmps68
    go_wp2_with fail
    refine (HX.out _).mono ?_
    rintro e w1 ⟨rfl, rfl⟩
    go_wp2
    go_ret
    exact ⟨rfl, (Kp.refl w).alloc _ _⟩
  | true =>
    rw [Bool.true_and]
    go_enter Try.func68, Try.ntmps68
    go_wp2_with fail
    refine (HX.out _).mono ?_
    rintro e w1 ⟨rfl, rfl⟩
    go_wp2_with fail
    refine (HY.out _).mono ?_
    rintro e w1 ⟨rfl, rfl⟩
    go_wp2
    go_ret
    exact ⟨rfl, (Kp.refl w).alloc _ _⟩
end Go.Proofs.Ytjjndpbplclidaa
namespace Go.Proofs.Ytjjndpbplclidaa
open Go.ChangeShapes Go.WideShapes Go.ChangeAt Go.RowKit
set_option linter.unusedVariables false

/-- All points are fixed. -/
def fixL (l : List LD) : Bool := l.all fun x => ptsB x.pts
def goodL (l : List LD) : Bool := fixL l && decide (manyL l ≤ 600)
theorem fixL_false {l : List LD} {k j : Nat} (hk : k < l.length) (hj : j < (lnAt l k).pts.length) (h : ptB (ptAt (lnAt l k).pts j) = false) : fixL l = false := by
  refine all_false _ noLD l k hk ?_
  exact all_false _ (0, 0) _ j hj h
theorem fixL_true {l : List LD} (h : ∀ k, k < l.length → ptsB (lnAt l k).pts = true) : fixL l = true := all_true _ noLD l h
set_option maxHeartbeats 2000000 in
theorem sgoodL (w : World) (a : Option Addr) (c : Nat) (l : List LD) (hl : l.length ≤ 1048576) (hm : manyL l ≤ 1048576) (hr : Lines w a l) :
    Calls Try.prog 45 #[.slice a l.length c] w fun e w' => e = .returned (.bool (goodL l)) ∧ Kp w w' := by
  obtain ⟨V, hV⟩ : ∃ V, goodL l = V := ⟨_, rfl⟩
  have HV : Hid (goodL l = V) := hV
  rw [hV]
  clear hV
  have HR : Hid (Lines w a l) := hr
  clear hr
  go_enter Try.func45, Try.ntmps45
  go_wp2
  go_loopw [9] (fun i wr => ∃ k : Nat, k ≤ l.length ∧ i = .int .i64 k ∧ (∀ m, m < k → ptsB (lnAt l m).pts = true) ∧ Kp w wr) (fun i _ => l.length - (intOf i).toNat)
  case atStart => exact ⟨0, Nat.zero_le _, rfl, fun m hm => absurd hm (by omega), Kp.refl _⟩
  case round =>
    obtain ⟨k, hk, rfl, ha, hw⟩ := hrel
    have HW : Hid (Kp w wr) := hw
    have HA : Hid _ := ha
    clear hw ha
    by_cases hlt : k < l.length
    · rcases (HR.out.nw HW.out.nw) with h | ⟨b, off, rfl, hb, hc⟩
      · rw [h] at hlt; simp at hlt
      obtain ⟨⟨pa, pc, q0, qp⟩, q1⟩ := hc k hlt
      clear hc
      have HP : Hid (Pts wr pa (lnAt l k).pts) := qp
      have hn := manyL_at l k hlt
      have HF : Hid (∀ j, j < (lnAt l k).pts.length → ptB (ptAt (lnAt l k).pts j) = false → V = false) := fun j hj h => by
        have := fixL_false hlt hj h
        rw [← HV.out]; unfold goodL; rw [this]; rfl
      have HT : Hid ((∀ j, j < (lnAt l k).pts.length → ptB (ptAt (lnAt l k).pts j) = true) → ptsB (lnAt l k).pts = true) := fun h => all_true _ (0, 0) _ h
      clear qp
      generalize (lnAt l k).closed = cl at *
      generalize hps : (lnAt l k).pts = ps at *
      have HPS : Hid ((lnAt l k).pts = ps) := hps
      clear hps
      obtain ⟨W1, hW1⟩ : ∃ W1, wr = W1 := ⟨_, rfl⟩
      rw [hW1] at HW HP q0 q1 hb ⊢
      clear hW1
      go_wp2
      go_loopw [16] (fun i wr => ∃ j : Nat, j ≤ ps.length ∧ i = .int .i64 j ∧ (∀ m, m < j → ptB (ptAt ps m) = true) ∧ Kp W1 wr) (fun i _ => ps.length - (intOf i).toNat)
      case atStart => exact ⟨0, Nat.zero_le _, rfl, fun m hm => absurd hm (by omega), (Kp.refl _).alloc _ _⟩
      case round =>
        obtain ⟨j, hj, rfl, ha, hw⟩ := hrel
        have HW2 : Hid _ := hw
        have HA2 : Hid _ := ha
        clear hw ha
        by_cases hlt2 : j < ps.length
        · rcases (Pts.nw HP.out (Kp.nw HW2.out)) with h | ⟨b2, off2, rfl, hb2, hc⟩
          · rw [h] at hlt2; simp at hlt2
          obtain ⟨p0, p1⟩ := hc j hlt2
          clear hc
          obtain ⟨p, hp⟩ : ∃ p, ptAt ps j = p := ⟨_, rfl⟩
          have HPP : Hid (ptAt ps j = p) := hp
          rw [hp] at p0 p1
          clear hp
          obtain ⟨x, y⟩ := p
          have hcall : Hid _ := fun w => sgoodP w x y
          cases hf : ptB (x, y) with
          | true =>
            rw [hf] at hcall
            have HFF : Hid (ptB (x, y) = true) := hf
            clear hf
            go_wp2_with fail
            refine (hcall.out _).mono ?_
            rintro e w1 ⟨rfl, k1⟩
            have K1 : Hid (Kp W1 w1) := Kp.trans (Kp.alloc HW2.out _ _) k1
            clear k1
            go_wp2
            go_roundw
            case rel =>
              refine ⟨j + 1, by omega, by go_num, fun m hm => ?_, K1.out⟩
              rcases Nat.lt_succ_iff_lt_or_eq.1 hm with h | h
              · exact HA2.out m h
              · rw [h, HPP.out]; exact HFF.out
            case measure => simp [intOf]; omega
          | false =>
            rw [hf] at hcall
            have HFF : Hid (V = false) := HF.out j hlt2 (by rw [HPP.out]; exact hf)
            clear hf
            go_wp2_with fail
            refine (hcall.out _).mono ?_
            rintro e w1 ⟨rfl, k1⟩
            have K1 : Hid (Kp W1 w1) := Kp.trans (Kp.alloc HW2.out _ _) k1
            clear k1
            go_wp2
            go_ret
            exact ⟨ret_bool HFF.out.symm, Kp.trans HW.out K1.out⟩
        · have HX : Hid (ptsB (lnAt l k).pts = true) := by
            show _ = _
            rw [HPS.out]
            exact HT.out (fun m hm => HA2.out m (by omega))
          clear HA2
          go_wp2
          go_roundw
          case rel =>
            refine ⟨k + 1, by omega, by go_num, fun m hm => ?_, Kp.trans HW.out HW2.out⟩
            rcases Nat.lt_succ_iff_lt_or_eq.1 hm with h | h
            · exact HA.out m h
            · rw [h]; exact HX.out
          case measure => simp [intOf]; omega
    · have HX : Hid (decide (manyL l ≤ 600) = V) := by
        show _ = _
        rw [← HV.out]; unfold goodL
        rw [fixL_true (fun m hm => HA.out m (by omega))]; rfl
      have HM : Hid _ := fun (w : World) (h : Lines w a l) => smany w a c l hl hm h
      have HQ : Hid _ := HR.out.nw HW.out.nw
      have hd : decide ((manyL l : Int) ≤ 600) = decide (manyL l ≤ 600) := by
        rw [Bool.eq_iff_iff]; simp; omega
      rw [HX.out] at hd
      clear HA
      go_wp2_with fail
      refine Calls.mono (HM.out _ HQ.out) ?_
      rintro e w1 ⟨rfl, k1⟩
      have K1 : Hid (Kp w w1) := Kp.trans HW.out k1
      clear k1
      go_wp2
      go_ret
      exact ⟨rfl, K1.out⟩
end Go.Proofs.Ytjjndpbplclidaa
namespace Go.Proofs.Ytjjndpbplclidaa
open Go.ChangeShapes Go.WideShapes Go.ChangeAt Go.RowKit
set_option linter.unusedVariables false

/-- Nothing that was there is written but in the blocks from lo on and below hi. -/
structure Mid (lo hi : Nat) (w w' : World) : Prop where
  os : w'.os = w.os
  tape : w'.tape = w.tape
  output : w'.output = w.output
  size : w.heap.size ≤ w'.heap.size
  block : ∀ k, k < w.heap.size → (k < lo ∨ hi ≤ k) → w'.heap[k]? = w.heap[k]?
theorem Mid.refl (lo hi : Nat) (w : World) : Mid lo hi w w := ⟨rfl, rfl, rfl, Nat.le_refl _, fun _ _ _ => rfl⟩
theorem Mid.nw {lo hi : Nat} {a b c : World} (h : Mid lo hi a b) (k : Nw b c) : Mid lo hi a c :=
  ⟨(Below.os k).trans h.os, (Below.tape k).trans h.tape, (Below.output k).trans h.output, Nat.le_trans h.size (Below.size k), fun i hi hb => (Below.block k i (Nat.lt_of_lt_of_le hi h.size)).trans (h.block i hi hb)⟩
theorem Mid.trans {lo hi : Nat} {a b c : World} (h : Mid lo hi a b) (k : Mid lo hi b c) : Mid lo hi a c :=
  ⟨k.os.trans h.os, k.tape.trans h.tape, k.output.trans h.output, Nat.le_trans h.size k.size, fun i hi hb => (k.block i (Nat.lt_of_lt_of_le hi h.size) hb).trans (h.block i hi hb)⟩
theorem Mid.set {lo hi : Nat} {a b : World} (h : Mid lo hi a b) {g : Nat} (h1 : lo ≤ g) (h2 : g < hi) (o : Nat) (v : Value) : Mid lo hi a (b.setCell ⟨g, o, none⟩ v) :=
  ⟨h.os, h.tape, h.output, by simpa [World.setCell] using h.size, fun i hi hb => by
    rw [Below.heap_setCell _ _ _ _ (by show i ≠ g; omega)]
    exact h.block i hi hb⟩
theorem Mid.below {lo hi : Nat} {a b : World} (h : Mid lo hi a b) (hl : lo ≤ a.heap.size) : Below lo a b :=
  ⟨h.os, h.tape, h.output, h.size, fun i hi => h.block i (by omega) (Or.inl hi)⟩
theorem Mid.cell {lo hi : Nat} {a b : World} (h : Mid lo hi a b) {g : Nat} (hg : g < a.heap.size) (hb : g < lo ∨ hi ≤ g) (o : Nat) : b.cell? ⟨g, o, none⟩ = a.cell? ⟨g, o, none⟩ :=
  World.cell?_of_block (w := a) (a := ⟨g, o, none⟩) (h.block g hg hb)
theorem Mid.frozen {lo hi : Nat} {a b : World} (h : Mid lo hi a b) {g : Nat} (hg : g < a.heap.size) (hb : g < lo ∨ hi ≤ g) (o : Nat) : b.frozen? ⟨g, o, none⟩ = a.frozen? ⟨g, o, none⟩ :=
  World.frozen?_of_block (w := a) (a := ⟨g, o, none⟩) (h.block g hg hb)
end Go.Proofs.Ytjjndpbplclidaa
namespace Go.Proofs.Ytjjndpbplclidaa
open Go.ChangeShapes Go.WideShapes Go.ChangeAt Go.RowKit
set_option linter.unusedVariables false

/-! ### Marks -/
def vAt (l : List Value) (i : Nat) : Value := l.getD i undef
def nAt (l : List Nat) (i : Nat) : Nat := l.getD i 0
/-- The mark that line i begins with. -/
def kAt (ns : List Nat) (K : Nat) : Nat → Nat
  | 0 => K
  | i + 1 => kAt ns K i + 2 * nAt ns i + 1
theorem kAt_ge (ns : List Nat) (K i : Nat) : K ≤ kAt ns K i := by
  induction i with
  | zero => exact Nat.le_refl _
  | succ i ih => simp only [kAt]; omega
theorem kAt_mono (ns : List Nat) (K : Nat) {i j : Nat} (h : i ≤ j) : kAt ns K i ≤ kAt ns K j := by
  induction j with
  | zero => obtain rfl : i = 0 := by omega
            exact Nat.le_refl _
  | succ j ih =>
    by_cases e : i = j + 1
    · rw [e]; exact Nat.le_refl _
    · have := ih (by omega); simp only [kAt]; omega
/-- Where the rows lie: the lines' in g, their points' elsewhere, each in a block of its own, all from lo on and below hi. -/
structure SF (lo hi g : Nat) (vs : List Value) : Prop where
  inn : lo ≤ g ∧ g < hi
  pts : ∀ i, i < vs.length → ∀ b, (vAt vs i).ownBlock = some b → lo ≤ b ∧ b < hi ∧ b ≠ g
  apart : ∀ i j, i ≠ j → i < vs.length → j < vs.length → ∀ b, (vAt vs i).ownBlock = some b → (vAt vs j).ownBlock ≠ some b
/-- Points that may be written. -/
def AnyV (w : World) (v : Value) (n : Nat) : Prop := (v = .slice none 0 0 ∧ n = 0) ∨ ∃ g c, v = .slice (some ⟨g, 0, none⟩) n c ∧ AnyPt w g n
def clB (k : Nat) : Bool := ((k : Int) % 3 == 0)
/-- Lines of which the first j bear marks. -/
structure MkLn (w : World) (g : Nat) (vs : List Value) (ns : List Nat) (K j : Nat) : Prop where
  lt : g < w.heap.size
  free : ∀ o, w.frozen? ⟨g, o, none⟩ = false
  sl : ∀ i, i < vs.length → w.cell? ⟨g, i * 2, none⟩ = some (vAt vs i)
  c1 : ∀ i, i < j → i < vs.length → w.cell? ⟨g, i * 2 + 1, none⟩ = some (.bool (clB (kAt ns K i + 2 * nAt ns i)))
  c2 : ∀ i, j ≤ i → i < vs.length → ∃ b, w.cell? ⟨g, i * 2 + 1, none⟩ = some (.bool b)
  p1 : ∀ i, i < j → i < vs.length → Mkd w (vAt vs i) (nAt ns i) (kAt ns K i)
  p2 : ∀ i, j ≤ i → i < vs.length → AnyV w (vAt vs i) (nAt ns i)
theorem AnyPt.grow {w w' : World} {g n : Nat} {r : Option Nat} (h : AnyPt w g n) (k : w.grownBy w' r) (hne : some g ≠ r) : AnyPt w' g n := by
  have e := fun o => World.cell?_of_block (w := w) (w' := w') (a := ⟨g, o, none⟩) (k.block g h.1 hne)
  have f := fun o => World.frozen?_of_block (w := w) (w' := w') (a := ⟨g, o, none⟩) (k.block g h.1 hne)
  refine ⟨Nat.lt_of_lt_of_le h.1 k.size, fun i hi => ?_, fun o => (f o).trans (h.2.2 o)⟩
  obtain ⟨⟨x, hx⟩, y, hy⟩ := h.2.1 i hi
  exact ⟨⟨x, (e _).trans hx⟩, y, (e _).trans hy⟩
theorem LayPt.grow {w w' : World} {g k : Nat} {l : List Pnt} {r : Option Nat} (h : LayPt w g l k) (q : w.grownBy w' r) (hne : some g ≠ r) : LayPt w' g l k := by
  have e := fun o => World.cell?_of_block (w := w) (w' := w') (a := ⟨g, o, none⟩) (q.block g h.1 hne)
  have f := fun o => World.frozen?_of_block (w := w) (w' := w') (a := ⟨g, o, none⟩) (q.block g h.1 hne)
  exact ⟨Nat.lt_of_lt_of_le h.1 q.size, fun i hi => ⟨(e _).trans (h.2.1 i hi).1, (e _).trans (h.2.1 i hi).2⟩, fun i a b => ⟨(e _).trans (h.2.2.1 i a b).1, (e _).trans (h.2.2.1 i a b).2⟩, fun o => (f o).trans (h.2.2.2 o)⟩
theorem AnyV.grow {w w' : World} {v : Value} {n : Nat} {r : Option Nat} (h : AnyV w v n) (k : w.grownBy w' r) (hne : ∀ g, v.ownBlock = some g → some g ≠ r) : AnyV w' v n := by
  rcases h with h | ⟨g, c, h1, h2⟩
  · exact Or.inl h
  · exact Or.inr ⟨g, c, h1, h2.grow k (hne g (by rw [h1]; rfl))⟩
theorem Mkd.grow {w w' : World} {v : Value} {n K : Nat} {r : Option Nat} (h : Mkd w v n K) (k : w.grownBy w' r) (hne : ∀ g, v.ownBlock = some g → some g ≠ r) : Mkd w' v n K := by
  rcases h with h | ⟨g, c, h1, h2⟩
  · exact Or.inl h
  · exact Or.inr ⟨g, c, h1, h2.grow k (hne g (by rw [h1]; rfl))⟩
/-- One more line bears its marks. -/
theorem MkLn.step {w w' : World} {lo hi g : Nat} {vs : List Value} {ns : List Nat} {K j : Nat} (h : MkLn w g vs ns K j) (hs : SF lo hi g vs) (hj : j < vs.length) (k : w.grownBy w' (vAt vs j).ownBlock) (hm : Mkd w' (vAt vs j) (nAt ns j) (kAt ns K j)) :
    MkLn (w'.setCell ⟨g, j * 2 + 1, none⟩ (.bool (clB (kAt ns K j + 2 * nAt ns j)))) g vs ns K (j + 1) := by
  have hg : some g ≠ (vAt vs j).ownBlock := fun e => (hs.pts j hj g e.symm).2.2 rfl
  have e := fun o => World.cell?_of_block (w := w) (w' := w') (a := ⟨g, o, none⟩) (k.block g h.lt hg)
  have f := fun o => World.frozen?_of_block (w := w) (w' := w') (a := ⟨g, o, none⟩) (k.block g h.lt hg)
  have far : ∀ o, o ≠ j * 2 + 1 → (w'.setCell ⟨g, j * 2 + 1, none⟩ (.bool (clB (kAt ns K j + 2 * nAt ns j)))).cell? ⟨g, o, none⟩ = w'.cell? ⟨g, o, none⟩ := fun o ho => World.cell?_setCell_other _ _ _ _ (fun e => by injection e; omega)
  obtain ⟨b0, hb0⟩ := h.c2 j (Nat.le_refl _) hj
  have sg : w'.grownBy (w'.setCell ⟨g, j * 2 + 1, none⟩ (.bool (clB (kAt ns K j + 2 * nAt ns j)))) (some g) := set_grown
  have ng : ∀ i, i < vs.length → ∀ b, (vAt vs i).ownBlock = some b → some b ≠ some g := fun i hi b hb e => by injection e with e; exact (hs.pts i hi b hb).2.2 e
  refine ⟨Nat.lt_of_lt_of_le h.lt (by simpa [World.setCell] using k.size), fun o => by rw [World.frozen?_setCell]; exact (f o).trans (h.free o), fun i hi => ?_, fun i hij hi => ?_, fun i hij hi => ?_, fun i hij hi => ?_, fun i hij hi => ?_⟩
  · rw [far _ (by omega)]; exact (e _).trans (h.sl i hi)
  · by_cases ej : i = j
    · subst ej; exact World.cell?_setCell_same w' ⟨g, i * 2 + 1, none⟩ _ ((e _).trans hb0)
    · rw [far _ (by omega)]; exact (e _).trans (h.c1 i (by omega) hi)
  · obtain ⟨b, hb⟩ := h.c2 i (by omega) hi
    exact ⟨b, by rw [far _ (by omega)]; exact (e _).trans hb⟩
  · by_cases ej : i = j
    · subst ej; exact hm.grow sg (ng i hi)
    · exact ((h.p1 i (by omega) hi).grow k (fun b hb => fun e2 => hs.apart i j ej hi hj b hb e2.symm)).grow sg (ng i hi)
  · exact ((h.p2 i (by omega) hi).grow k (fun b hb => fun e2 => hs.apart i j (by omega) hi hj b hb e2.symm)).grow sg (ng i hi)
theorem AnyV.form {w : World} {v : Value} {n : Nat} (h : AnyV w v n) : ∃ a c, v = .slice a n c := by
  rcases h with ⟨h1, h2⟩ | ⟨g, c, h1, _⟩
  · exact ⟨none, 0, by rw [h1, h2]⟩
  · exact ⟨_, c, h1⟩
theorem Mkd.form {w : World} {v : Value} {n K : Nat} (h : Mkd w v n K) : ∃ a c, v = .slice a n c := by
  rcases h with ⟨h1, h2⟩ | ⟨g, c, h1, _⟩
  · exact ⟨none, 0, by rw [h1, h2]⟩
  · exact ⟨_, c, h1⟩
/-- Marks in points, whatever row it is. -/
theorem markPt_v (w : World) (v : Value) (n K : Nat) (hl : n ≤ 1048576) (hK2 : K ≤ 50000000) (h : AnyV w v n) :
    Calls Try.prog 40 #[v, .int .i64 (K : Int)] w fun e w' => e = .returned (.int .i64 ((K + 2 * n : Nat) : Int)) ∧ w.grownBy w' v.ownBlock ∧ Mkd w' v n K := by
  rcases h with ⟨rfl, rfl⟩ | ⟨g, c, rfl, h2⟩
  · refine (markPt_nil w K hK2).mono ?_
    rintro e w' ⟨rfl, rfl⟩
    exact ⟨rfl, grP_refl _ _, Or.inl ⟨rfl, rfl⟩⟩
  · refine (markPt_any w g c K n hl hK2 h2).mono ?_
    rintro e w' ⟨rfl, h3, h4⟩
    exact ⟨rfl, h3, Or.inr ⟨g, c, rfl, h4⟩⟩
theorem Mid.of_grown {lo hi : Nat} {a b : World} {r : Option Nat} (k : a.grownBy b r) (h : ∀ g, r = some g → lo ≤ g ∧ g < hi) : Mid lo hi a b :=
  ⟨k.os, k.tape, k.output, k.size, fun i hi hb => k.block i hi (fun e => by have := h i e.symm; omega)⟩
theorem clB_at (Z : Nat) : clB Z = ((Z : Int) % 3 == 0) := rfl
set_option maxHeartbeats 4000000 in
theorem markLineS_any (w : World) (lo hi g c : Nat) (vs : List Value) (ns : List Nat) (K : Nat) (hs : SF lo hi g vs) (hn : vs.length ≤ 1048576) (hk : ∀ i, i < vs.length → nAt ns i ≤ 1048576) (hK : kAt ns K vs.length ≤ 40000000) (h : MkLn w g vs ns K 0) :
    Calls Try.prog 15 #[.slice (some ⟨g, 0, none⟩) vs.length c, .int .i64 (K : Int)] w fun e w' => e = .returned (.int .i64 (kAt ns K vs.length : Int)) ∧ Mid lo hi w w' ∧ MkLn w' g vs ns K vs.length := by
  have HS : Hid (SF lo hi g vs) := hs
  have HK : Hid (∀ i, i < vs.length → nAt ns i ≤ 1048576) := hk
  have HH : Hid (MkLn w g vs ns K 0) := h
  clear hs hk h
  go_enter Try.func15, Try.ntmps15
  go_wp2
  go_loopw [1, 5] (fun x i wr => ∃ j : Nat, j ≤ vs.length ∧ i = .int .i64 j ∧ x = .int .i64 (kAt ns K j : Int) ∧ Mid lo hi w wr ∧ MkLn wr g vs ns K j) (fun _ i _ => vs.length - (intOf i).toNat)
  case atStart => exact ⟨0, Nat.zero_le _, rfl, rfl, Mid.refl _ _ _, HH.out⟩
  case round =>
    obtain ⟨j, hj, rfl, rfl, hw, hm⟩ := hrel
    have HW : Hid (Mid lo hi w wr) := hw
    have HM : Hid (MkLn wr g vs ns K j) := hm
    clear hw hm
    by_cases hlt : j < vs.length
    · have q0 := HM.out.sl j hlt
      obtain ⟨b0, q1⟩ := HM.out.c2 j (Nat.le_refl _) hlt
      have qf := HM.out.free
      have hkj : kAt ns K (j + 1) ≤ kAt ns K vs.length := kAt_mono ns K hlt
      have HE : Hid (kAt ns K (j + 1) = kAt ns K j + 2 * nAt ns j + 1) := rfl
      have hkj2 : kAt ns K j + 2 * nAt ns j + 1 ≤ 40000000 := by have := HE.out; omega
      have HC : Hid _ := markPt_v wr (vAt vs j) (nAt ns j) (kAt ns K j) (HK.out j hlt) (by omega) (HM.out.p2 j (Nat.le_refl _) hlt)
      obtain ⟨va, vc, hv⟩ := (HM.out.p2 j (Nat.le_refl _) hlt).form
      have HST : Hid (∀ w1, wr.grownBy w1 (vAt vs j).ownBlock → Mkd w1 (vAt vs j) (nAt ns j) (kAt ns K j) → (∃ b, w1.cell? ⟨g, j * 2 + 1, none⟩ = some (.bool b)) ∧ (∀ o, w1.frozen? ⟨g, o, none⟩ = false) ∧ MkLn (w1.setCell ⟨g, j * 2 + 1, none⟩ (.bool (clB (kAt ns K j + 2 * nAt ns j)))) g vs ns K (j + 1) ∧ Mid lo hi w (w1.setCell ⟨g, j * 2 + 1, none⟩ (.bool (clB (kAt ns K j + 2 * nAt ns j))))) := fun w1 k1 k2 => by
        have hg : some g ≠ (vAt vs j).ownBlock := fun e => (HS.out.pts j hlt g e.symm).2.2 rfl
        refine ⟨⟨b0, (World.cell?_of_block (w := wr) (w' := w1) (a := ⟨g, j * 2 + 1, none⟩) (k1.block g HM.out.lt hg)).trans q1⟩, fun o => (World.frozen?_of_block (w := wr) (w' := w1) (a := ⟨g, o, none⟩) (k1.block g HM.out.lt hg)).trans (qf o), HM.out.step HS.out hlt k1 k2, ?_⟩
        exact (Mid.trans HW.out (Mid.of_grown k1 (fun b hb => ⟨(HS.out.pts j hlt b hb).1, (HS.out.pts j hlt b hb).2.1⟩))).set HS.out.inn.1 HS.out.inn.2 _ _
      rw [hv] at q0 HC HST
      generalize nAt ns j = n at *
      generalize kAt ns K j = k at *
      clear hv
      go_wp2_with fail
      refine Calls.mono HC.out ?_
      rintro e w1 ⟨rfl, k1, k2⟩
      obtain ⟨⟨b1, r1⟩, rf, s1, s2⟩ := HST.out w1 k1 k2
      have S1 : Hid _ := s1
      have S2 : Hid _ := s2
      rw [clB_at] at S1 S2
      have hkz : 0 ≤ ((k + 2 * n : Nat) : Int) ∧ ((k + 2 * n : Nat) : Int) ≤ 40000000 := by omega
      have HZ : Hid (((k + 2 * n + 1 : Nat) : Int) = ((k + 2 * n : Nat) : Int) + 1) := by show _ = _; omega
      generalize ((k + 2 * n : Nat) : Int) = Z at *
      clear s1 s2 k1 k2 HC HST
      go_wp2
      go_roundw
      case rel => exact ⟨j + 1, by omega, by go_num, by rw [HE.out, HZ.out], S2.out, S1.out⟩
      case measure => simp [intOf]; omega
    · have e : j = vs.length := by omega
      subst e
      go_wp2
      go_ret
      exact ⟨rfl, HW.out, HM.out⟩
theorem markLineS_nil (w : World) (K : Nat) (hK : K ≤ 40000000) : Calls Try.prog 15 #[.slice none 0 0, .int .i64 (K : Int)] w fun e w' => e = .returned (.int .i64 (K : Int)) ∧ w' = w := by
  go_enter Try.func15, Try.ntmps15
  go_wp2
  go_loop [1, 5] (fun x i => x = .int .i64 (K : Int) ∧ i = .int .i64 0) (fun _ _ => 0)
  case atStart => exact ⟨rfl, rfl⟩
  case round =>
    obtain ⟨rfl, rfl⟩ := hrel
    go_wp2
    go_ret
    exact ⟨rfl, rfl⟩
end Go.Proofs.Ytjjndpbplclidaa
