/-
  A line that comes in: what the laws' helpers do that measure it and copy it; each theorem names its conditions.
  Rows of lines: marks in a list of the call's own, nil too; each theorem names its conditions.
  The walk of the law on Dashed; its arguments' lengths are at most what memory holds.
  Points that came in, opened: what their reading says of the memory; each theorem names its conditions.
-/
import Derived.Test.YtjjndpbplclidaaJAE
import Derived.Test.YtjjndpbplclidaaJAF
import Derived.Test.YtjjndpbplclidaaJAD
import Derived.Test.YtjjndpbplclidaaJAQ
import Derived.Test.YtjjndpbplclidaaJAC
import Derived.Test.YtjjndpbplclidaaJAH
import Derived.Test.YtjjndpbplclidaaJAB
import Derived.Deep.SlicePairs
import Derived.Lib.SmallJoins
import Derived.ShutString
import Derived.ChangeOld
namespace Go.Proofs.Ytjjndpbplclidaa
open Go.ChangeShapes Go.WideShapes Go.ChangeAt Go.RowKit
set_option linter.unusedVariables false

theorem retL {x y : Int} (h : x = y) : Ending.returned (.int .i64 x) = Ending.returned (.int .i64 y) := by rw [h]
def okL (l : List LD) : Prop := ∀ i, i < l.length → (lnAt l i).pts.length ≤ maxLen
set_option maxHeartbeats 1000000 in
theorem szLine_any (w : World) (a : Option Addr) (n c : Nat) (cl : Bool) (left : Int) (h0 : 0 ≤ left) (h1 : left ≤ 1048576) (hm : n ≤ maxLen) :
    Calls Try.prog 5 #[.agg #[.slice a n c, .bool cl], .int .i64 left] w fun e w' => e = .returned (.int .i64 (if (n : Int) ≤ left then left - (n : Int) else -1)) ∧ Nw w w' := by
  have HZ : Hid _ := fun w => szPointS_any w a n c left h0 h1 hm
  clear hm
  by_cases c1 : (n : Int) ≤ left
  · rw [if_pos c1] at HZ ⊢
    go_enter Try.func5, Try.ntmps5
    go_wp2_with fail
    refine Calls.mono (HZ.out _) ?_
    rintro e w1 ⟨rfl, rfl⟩
    go_wp2
    go_ret
    exact ⟨rfl, (Below.refl _ _).alloc (Nat.le_refl _) _⟩
  · rw [if_neg c1] at HZ ⊢
    go_enter Try.func5, Try.ntmps5
    go_wp2_with fail
    refine Calls.mono (HZ.out _) ?_
    rintro e w1 ⟨rfl, rfl⟩
    go_wp2
    go_ret
    exact ⟨rfl, (Below.refl _ _).alloc (Nat.le_refl _) _⟩
set_option maxHeartbeats 2000000 in
theorem toLine_any (w : World) (a : Option Addr) (c : Nat) (ps : List Pnt) (cl : Bool) (hl : ps.length ≤ 1048576) (hr : Pts w a ps) :
    Calls Try.prog 7 #[.agg #[.slice a ps.length c, .bool cl]] w fun e w' => ∃ g, e = .returned (.agg #[.slice (some ⟨g, 0, none⟩) ps.length ps.length, .bool cl]) ∧ Nw w w' ∧ w.heap.size ≤ g ∧ LayPt w' g ps ps.length := by
  have HR : ∀ o1 o2 o3, Hid (Pts (((w.alloc o1).alloc o2).alloc o3) a ps) := fun o1 o2 o3 => hr.nw ((((Below.refl _ _).alloc (Nat.le_refl _) _).alloc (by simp) _).alloc (by simp; omega) _)
  clear hr
  go_enter Try.func7, Try.ntmps7
  go_wp2_with (go_at_call 28; refine (toPointS_any _ a c ps hl (HR _ _ _).out).mono ?_; rintro e w' ⟨rfl, k1, k2⟩; obtain ⟨hc, hf⟩ := bcell k1)
  have K0 : Below w.heap.size w w' := Below.trans ((((Below.refl _ _).alloc (Nat.le_refl _) _).alloc (by simp) _).alloc (by simp; omega) _) (Below.mono k1 (by simp; omega))
  have hz : w.heap.size + 1 + 1 + 1 < w'.heap.size := by have := k2.1; simpa using this
  have K2 : LayPt w' (w.heap.size + 1 + 1 + 1) ps ps.length := by simpa using k2
  clear k1 k2
  refine bodyPost_ret (v := .agg #[.slice (some ⟨w.heap.size + 1 + 1 + 1, 0, none⟩) ps.length ps.length, .bool cl]) (by simp [results, Try.results7, go_sem, hc]) rfl ⟨w.heap.size + 1 + 1 + 1, rfl, ?_, by omega, ?_⟩
  · exact (((K0.setCell (by simp; omega) _).setCell (by simp; omega) _).setCell (by simp) _).setCell (by simp) _
  · exact (((K2.off _ _ _ (by omega)).off _ _ _ (by omega)).off _ _ _ (by omega)).off _ _ _ (by omega)
end Go.Proofs.Ytjjndpbplclidaa
namespace Go.Proofs.Ytjjndpbplclidaa
open Go.ChangeShapes Go.WideShapes Go.ChangeAt Go.RowKit
set_option linter.unusedVariables false

theorem OwnQ.mid {T : TypeId} {w w' : World} {B lo hi : Nat} {v : Value} {l : List VV} (h : OwnQ T w B v l) (k : Mid lo hi w w') (hh : hi ≤ B) : OwnQ T w' B v l := by
  refine ⟨h.1, ?_⟩
  rcases h.2 with hn | ⟨g, cap, cur, rfl, hb, hgg, rest⟩
  · exact .inl hn
  · refine .inr ⟨g, cap, cur, rfl, hb, ?_, rest⟩
    rw [k.block g (Array.getElem?_eq_some_iff.1 hgg).1 (Or.inr (by omega))]
    exact hgg
theorem OwnLn.mid {w w' : World} {B lo hi : Nat} {v : Value} {it : Its} (h : OwnLn w B v it) (k : Mid lo hi w w') (hh : hi ≤ B) : OwnLn w' B v it :=
  ⟨OwnQ.mid h.own k hh, fun i hi => OwnQ.mid (h.pts i hi) k hh, h.far, h.apart⟩
theorem kAt_sum (it : Its) (K : Nat) : ∀ i, i ≤ it.length → kAt (nsOf it) K i = K + 2 * manyL ((it.map (·.2)).take i) + i
  | 0, _ => by simp [kAt, manyL]
  | i + 1, h => by
    have ih := kAt_sum it K i (by omega)
    have hs := manyL_step (it.map (·.2)) i (by simp; omega)
    rw [ld_at it i (by omega)] at hs
    simp only [kAt]
    rw [ih, nsOf_at it i (by omega), hs]
    omega
theorem kAt_all (it : Its) (K : Nat) : kAt (nsOf it) K it.length = K + 2 * manyL (it.map (·.2)) + it.length := by
  have h := kAt_sum it K it.length (Nat.le_refl _)
  rw [List.take_of_length_le (by simp)] at h
  exact h
theorem nsOf_le (it : Its) (i : Nat) (h : i < it.length) : nAt (nsOf it) i ≤ manyL (it.map (·.2)) := by
  rw [nsOf_at it i h, ← ld_at it i h]
  exact manyL_at _ i (by simpa using h)
/-- A list that bears its marks. -/
def MkdL (w : World) (v : Value) (it : Its) (K : Nat) : Prop := (v = .slice none 0 0 ∧ it = []) ∨ ∃ g c, v = .slice (some ⟨g, 0, none⟩) it.length c ∧ MkLn w g (vsOf it) (nsOf it) K it.length
theorem Mkd.nwL {w w' : World} {v : Value} {n K : Nat} (h : Mkd w v n K) (k : Nw w w') : Mkd w' v n K := h.nw k
theorem AnyPt.nwL {w w' : World} {g n : Nat} (h : AnyPt w g n) (k : Nw w w') : AnyPt w' g n :=
  ⟨Nat.lt_of_lt_of_le h.1 (Below.size k), fun i hi => by obtain ⟨⟨x, hx⟩, y, hy⟩ := h.2.1 i hi; exact ⟨⟨x, ((bcell k).1 _ _ h.1).trans hx⟩, y, ((bcell k).1 _ _ h.1).trans hy⟩, fun o => ((bcell k).2 _ _ h.1).trans (h.2.2 o)⟩
theorem AnyV.nwL {w w' : World} {v : Value} {n : Nat} (h : AnyV w v n) (k : Nw w w') : AnyV w' v n := by
  rcases h with h | ⟨g, c, h1, h2⟩
  · exact Or.inl h
  · exact Or.inr ⟨g, c, h1, h2.nwL k⟩
theorem MkLn.nw {w w' : World} {g K j : Nat} {vs : List Value} {ns : List Nat} (h : MkLn w g vs ns K j) (k : Nw w w') : MkLn w' g vs ns K j :=
  ⟨Nat.lt_of_lt_of_le h.lt (Below.size k), fun o => ((bcell k).2 _ _ h.lt).trans (h.free o), fun i hi => ((bcell k).1 _ _ h.lt).trans (h.sl i hi), fun i a b => ((bcell k).1 _ _ h.lt).trans (h.c1 i a b),
    fun i a b => by obtain ⟨x, hx⟩ := h.c2 i a b; exact ⟨x, ((bcell k).1 _ _ h.lt).trans hx⟩, fun i a b => (h.p1 i a b).nwL k, fun i a b => (h.p2 i a b).nwL k⟩
theorem MkdL.nw {w w' : World} {v : Value} {it : Its} {K : Nat} (h : MkdL w v it K) (k : Nw w w') : MkdL w' v it K := by
  rcases h with h | ⟨g, c, h1, h2⟩
  · exact Or.inl h
  · exact Or.inr ⟨g, c, h1, h2.nw k⟩
theorem markL_own (w : World) (B : Nat) (v : Value) (it : Its) (h : OwnLn w B v it) (hn : it.length ≤ 1048576) (hm : manyL (it.map (·.2)) ≤ 1048576) :
    Calls Try.prog 15 #[v, .int .i64 1] w fun e w' => e = .returned (.int .i64 (kAt (nsOf it) 1 it.length : Int)) ∧ Mid B w.heap.size w w' ∧ MkdL w' v it 1 := by
  have hl : (vsOf it).length = it.length := by simp [vsOf]
  rcases h.marks 1 with ⟨rfl, rfl⟩ | ⟨g, c, rfl, hs, hk⟩
  · refine (markLineS_nil w 1 (by omega)).mono ?_
    rintro e w' ⟨rfl, rfl⟩
    exact ⟨rfl, Mid.refl _ _ _, Or.inl ⟨rfl, rfl⟩⟩
  · have := markLineS_any w B w.heap.size g c (vsOf it) (nsOf it) 1 hs (by rw [hl]; exact hn) (fun i hi => Nat.le_trans (nsOf_le it i (by rw [← hl]; exact hi)) hm) (by rw [hl, kAt_all]; omega) hk
    rw [hl] at this
    refine this.mono ?_
    rintro e w' ⟨rfl, h1, h2⟩
    exact ⟨rfl, h1, Or.inr ⟨g, c, rfl, h2⟩⟩
theorem heldL_own (w : World) (v : Value) (it : Its) (h : MkdL w v it 1) (hn : it.length ≤ 1048576) (hm : manyL (it.map (·.2)) ≤ 1048576) :
    Calls Try.prog 16 #[v, .int .i64 1] w fun e w' => e = .returned (.int .i64 (kAt (nsOf it) 1 it.length : Int)) ∧ w' = w := by
  have hl : (vsOf it).length = it.length := by simp [vsOf]
  rcases h with ⟨rfl, rfl⟩ | ⟨g, c, rfl, hk⟩
  · exact heldLineS_nil w 1 (by omega)
  · have := heldLineS_any w g c (vsOf it) (nsOf it) 1 (by rw [hl]; exact hn) (fun i hi => Nat.le_trans (nsOf_le it i (by rw [← hl]; exact hi)) hm) (by rw [hl, kAt_all]; omega) (by rw [hl]; exact hk)
    rw [hl] at this
    exact this
end Go.Proofs.Ytjjndpbplclidaa
namespace Go.Proofs.Ytjjndpbplclidaa
open Go.ChangeShapes Go.WideShapes Go.ChangeAt Go.RowKit
set_option linter.unusedVariables false

/-- Each line has more than one point. -/
def thick (o : List LD) : Prop := ∀ x, x ∈ o → 1 < x.pts.length
theorem thick_len : ∀ {o : List LD}, thick o → o.length ≤ manyL o
  | [], _ => Nat.le_refl _
  | x :: o, h => by
    have h1 := h x (List.mem_cons_self ..)
    have h2 := thick_len (o := o) (fun y hy => h y (List.mem_cons_of_mem _ hy))
    have e : manyL (x :: o) = x.pts.length + manyL o := by simp [manyL]
    rw [e, List.length_cons]
    omega
theorem thick_end {o : List LD} (h : thick o) (p : List Pnt) (c : Bool) : thick (endL o p c) := by
  unfold endL
  split
  · rename_i hp
    intro x hx
    rcases List.mem_append.1 hx with h1 | h1
    · exact h x h1
    · rw [List.mem_singleton.1 h1]; exact hp
  · exact h
theorem thick_turn {ns : List Int} {d : Dg} (q : Pnt) (h : thick d.o) : thick (turnD ns d q).o := by
  rw [turn_eq]; exact thick_end h _ _
theorem thick_walk (ns : List Int) (a b : Pnt) (n : Int) : ∀ (f : Nat) (d : Dg) (g : Int), thick d.o → thick (walkD ns a b n f d g).o
  | 0, d, g, h => h
  | f + 1, d, g, h => by
    rw [walkD]
    split
    · split
      · exact thick_turn _ h
      · exact thick_walk ns a b n f _ _ (thick_turn _ h)
    · rw [(rD_bd _ _).2.1]; exact h
theorem thick_along {ns : List Int} {d : Dg} (a b : Pnt) (h : thick d.o) : thick (alongD ns d a b).o := by
  unfold alongD
  split
  · exact h
  · exact thick_walk ns a b _ _ _ _ h
theorem thick_segs {ns : List Int} {d : Dg} (p : List Pnt) (h : thick d.o) : ∀ k, thick (segsD ns d p k).o
  | 0 => h
  | k + 1 => thick_along _ _ (thick_segs p h k)
theorem thick_dash (ns : List Int) (f : Int) (p : List Pnt) (cl : Bool) : thick (dash1 ns f p cl).o := by
  have h0 : thick (dash0 ns f p).o := thick_segs p (by rw [(rD_bd _ _).2.1]; intro x hx; cases hx) _
  unfold dash1
  refine thick_end ?_ _ _
  split
  · exact thick_along _ _ h0
  · exact h0
theorem dsV_bd (ns : List Int) (f : Int) (p : List Pnt) (cl : Bool) : (dsV ns f p cl).1.length ≤ 1048576 ∧ manyL (dsV ns f p cl).1 ≤ 600 := by
  unfold dsV
  by_cases hin : dsIn ns f p = true
  · rw [if_pos hin]
    by_cases hs : sumN ns ns.length = 0
    · rw [if_pos hs]
      unfold dsIn at hin
      simp only [Bool.and_eq_true, decide_eq_true_eq] at hin
      exact ⟨by simp, by simp [manyL]; omega⟩
    · rw [if_neg hs]
      by_cases hb : 2400 < (dash1 ns f p cl).begun ∨ 600 < manyL (dash1 ns f p cl).o
      · rw [if_pos hb]; exact ⟨by simp, by simp [manyL]⟩
      · rw [if_neg hb]
        simp only [not_or, Nat.not_lt] at hb
        have := thick_len (thick_dash ns f p cl)
        exact ⟨by show (dash1 ns f p cl).o.length ≤ _; omega, hb.2⟩
  · rw [if_neg hin]; exact ⟨by simp, by simp [manyL]⟩
theorem lenD_some {l : List LD} (h : manyL l ≤ 600) : lenL l := fun i hi => Nat.le_trans (manyL_at l i hi) (by omega)
theorem nw_midD {W a b : World} {lo hi : Nat} (h : Nw W a) (k : Mid lo hi a b) (hl : W.heap.size ≤ lo) (hs : lo ≤ a.heap.size) : Nw W b := Below.trans h (Below.mono (k.below hs) hl)
theorem mid_gr {a b : World} {g lo hi : Nat} (h : a.grownBy b (some g)) (h1 : lo ≤ g) (h2 : g < hi) : Mid lo hi a b :=
  ⟨h.os, h.tape, h.output, h.size, fun k hk hb => h.block k hk (fun e => by injection e; omega)⟩
theorem LayPt.rowp {w : World} {g : Nat} {l : List Pnt} (h : LayPt w g l l.length) : RowP w (.slice (some ⟨g, 0, none⟩) l.length l.length) l := ⟨_, _, rfl, h.pts⟩
set_option maxHeartbeats 1000000 in
/-- A line of the law's own copy is marked. -/
theorem markLine_lay (w : World) (g : Nat) (l : List Pnt) (cl : Bool) (K : Nat) (hl : l.length ≤ 1048576) (hK2 : K ≤ 40000000) (h : LayPt w g l l.length) :
    Calls Try.prog 13 #[.agg #[.slice (some ⟨g, 0, none⟩) l.length l.length, .bool cl], .int .i64 (K : Int)] w fun e w' => e = .returned (.int .i64 ((K + 2 * l.length : Nat) : Int)) ∧ w.grownBy w' (some g) := by
  have n1 : ∀ o1, Nw w (w.alloc o1) := fun o1 => (Below.refl _ _).alloc (Nat.le_refl _) _
  have HA : Hid (∀ o, AnyPt (w.alloc o) g l.length) := fun o => (h.nw (n1 o)).any
  have HK : Hid (K + 2 * l.length ≤ 60000000) := by show _ ≤ _; omega
  clear h
  go_enter Try.func13, Try.ntmps13
  go_wp2_with fail
  refine Calls.mono (markPt_any _ g l.length K l.length hl (by omega) (HA.out _)) ?_
  rintro e w1 ⟨rfl, g1, l1⟩
  have G1 : Hid (w.grownBy w1 (some g)) := World.grownBy.trans (gr_alloc _) g1
  clear g1 l1 HA
  go_wp2
  go_ret
  exact ⟨rfl, G1.out⟩
set_option maxRecDepth 100000 in
set_option maxHeartbeats 16000000 in
/-- The walk of the law on Dashed. -/
theorem walk_dashed (w : World) (pa : Option Addr) (p : List Pnt) (pc : Nat) (cl : Bool) (na : Option Addr) (ns : List Int) (nc : Nat) (f : Int) (hP : Pts w pa p) (hpl : p.length ≤ maxLen) (hI : Ints w na ns) (hnl : ns.length ≤ maxLen) (hf : -9223372036854775808 ≤ f ∧ f ≤ 9223372036854775807) :
    Calls Try.prog 3 #[.agg #[.slice pa p.length pc, .bool cl], .slice na ns.length nc, .int .i64 f] w fun e w' => e = .returned (.bool true) ∧ Below w.heap.size w w' := by
  obtain ⟨W1, hW1⟩ : ∃ W1, w.alloc (.cells #[.slice pa p.length pc, .bool cl] 24) = W1 := ⟨_, rfl⟩
  have N1 : Hid (Nw w W1) := by show Nw _ _; rw [← hW1]; exact (Below.refl _ _).alloc (Nat.le_refl _) _
  have q0 : W1.cell? ⟨w.heap.size, 0, none⟩ = some (.slice pa p.length pc) := by rw [← hW1, World.cell?_alloc_at _ _ _ _ rfl]; rfl
  have q1 : W1.cell? ⟨w.heap.size, 1, none⟩ = some (.bool cl) := by rw [← hW1, World.cell?_alloc_at _ _ _ _ rfl]; rfl
  have LB := World.block_lt_of_cell? W1 ⟨w.heap.size, 0, none⟩ q0
  have CBL : Hid (∀ w', Nw W1 w' → w'.cell? ⟨w.heap.size, 0, none⟩ = some (.slice pa p.length pc) ∧ w'.cell? ⟨w.heap.size, 1, none⟩ = some (.bool cl)) := fun w' k => ⟨((bcell k).1 _ _ LB).trans q0, ((bcell k).1 _ _ LB).trans q1⟩
  have HW1 : Hid (_ = W1) := hW1
  have HZ : Hid (∀ w, _) := fun w => szLine_any w pa p.length pc cl 1048576 (by omega) (by omega) hpl
  have HP : Hid (∀ w', Nw W1 w' → Pts w' pa p) := fun w' k => Pts.nw hP (Nw.trans N1.out k)
  have HI : Hid (∀ w', Nw W1 w' → Ints w' na ns) := fun w' k => Ints.nw hI (Nw.trans N1.out k)
  clear hW1 LB hP hI hf
  by_cases hn1 : ns.length ≤ 1048576
  · have dn : decide ((1048576 : Int) < (ns.length : Int)) = false := by simp; omega
    by_cases hp1 : p.length ≤ 1048576
    · rw [if_pos (by omega)] at HZ
      have dz : decide ((1048576 : Int) - (p.length : Int) < 0) = false := by simp; omega
      have HT : Hid (∀ w', Nw W1 w' → _) := fun w' k => toLine_any w' pa pc p cl hp1 (HP.out w' k)
      have HTI : Hid (∀ w', Nw W1 w' → _) := fun w' k => toIntS_any w' na nc ns hn1 (HI.out w' k)
      have HS : Hid (∀ (w' : World) (g gi : Nat), LayPt w' g p p.length → LayI w' gi ns → _) := fun w' g gi h1 h2 => sdashed w' (some ⟨g, 0, none⟩) p.length p cl (some ⟨gi, 0, none⟩) ns.length ns f hp1 hn1 h1.pts h2.ints
      have HD : Hid (∀ (w' : World) (g gi : Nat), LayPt w' g p p.length → LayI w' gi ns → _) := fun w' g gi h1 h2 => idashed w' (some ⟨g, 0, none⟩) p.length p cl (some ⟨gi, 0, none⟩) ns.length ns f hp1 hn1 (Nat.le_refl _) h1.pts h2.ints
      have HML : Hid ((dsV ns f p cl).1.length ≤ 1048576) := (dsV_bd ns f p cl).1
      have HMM : Hid (manyL (dsV ns f p cl).1 ≤ 600) := (dsV_bd ns f p cl).2
      generalize dsV ns f p cl = RR at *
      obtain ⟨M, ok⟩ := RR
      simp only at HS HD HML HMM
      have HE : Hid (∀ (w : World) (v1 v2 : Value), RowL w v1 M → RowL w v2 M → _) := fun w v1 v2 h1 h2 => eqLineS_any w v1 v2 M HML.out (lenD_some HMM.out) h1 h2
      have hbb : (ok != ok) = false := by cases ok <;> rfl
      have HP1 : Hid (p.length ≤ 1048576) := hp1
      have HN1 : Hid (ns.length ≤ 1048576) := hn1
      generalize hnp : p.length = np at *
      have HNP : Hid (p.length = np) := hnp
      generalize hnn : ns.length = nn at *
      have HNN : Hid (ns.length = nn) := hnn
      clear hnp hnn
      go_enter Try.func3, Try.ntmps3
      go_wp2_with fail
      rw [HW1.out]
      refine Calls.mono (HZ.out _) ?_
      rintro e w1 ⟨rfl, n1⟩
      have M1 : Hid (Nw W1 w1) := n1
      obtain ⟨c0, c1⟩ := CBL.out _ n1
      clear n1 q0 q1
      go_wp2_with fail
      refine Calls.mono (HT.out _ M1.out) ?_
      rintro e w2 ⟨g2, rfl, n2, hg2, l2⟩
      have M2 : Hid (Nw W1 w2) := Nw.trans M1.out n2
      have L2 : Hid (LayPt w2 g2 p np) := l2
      clear n2 l2 hg2 c0 c1
      go_wp2_with fail
      refine Calls.mono (HTI.out _ M2.out) ?_
      rintro e w3 ⟨rfl, n3, l3⟩
      have M3 : Hid (Nw W1 w3) := Nw.trans M2.out n3
      have HS3 : Hid _ := HS.out w3 g2 w2.heap.size (LayPt.nw L2.out n3) l3
      clear n3 l3
      go_wp2_with fail
      refine Calls.mono HS3.out ?_
      rintro e w4 ⟨v4, rfl, ⟨it4, o4, hit4⟩, n4⟩
      obtain ⟨sa, sn, sc, hv4⟩ := OwnQ.slice o4.own
      subst hv4
      have R4 : Hid (RowL w4 (.slice sa sn sc) M) := by show RowL _ _ _; have := o4.row; rw [hit4] at this; exact this
      have M4 : Hid (Nw W1 w4) := Nw.trans M3.out n4
      obtain ⟨c0, c1⟩ := CBL.out _ M4.out
      clear n4 o4 hit4 HS3
      go_wp2_with fail
      refine Calls.mono (HT.out _ M4.out) ?_
      rintro e w5 ⟨gx, rfl, n5, hgx, l5⟩
      have M5 : Hid (Nw W1 w5) := Nw.trans M4.out n5
      have A5 : Hid (Nw w4 w5) := n5
      have L5 : Hid (LayPt w5 gx p np) := l5
      have GX : Hid (w4.heap.size ≤ gx ∧ gx < w5.heap.size) := ⟨hgx, l5.1⟩
      clear n5 l5 hgx c0 c1
      obtain ⟨W6, hW6⟩ : ∃ W6, w5.alloc (.cells #[.slice (some ⟨gx, 0, none⟩) np np, .bool cl] 32) = W6 := ⟨_, rfl⟩
      have A6 : Hid (Nw w5 W6) := by show Nw _ _; rw [← hW6]; exact (Below.refl _ _).alloc (Nat.le_refl _) _
      have z0 : W6.cell? ⟨w5.heap.size, 0, none⟩ = some (.slice (some ⟨gx, 0, none⟩) np np) := by rw [← hW6, World.cell?_alloc_at _ _ _ _ rfl]; rfl
      have z1 : W6.cell? ⟨w5.heap.size, 1, none⟩ = some (.bool cl) := by rw [← hW6, World.cell?_alloc_at _ _ _ _ rfl]; rfl
      have LB6 := World.block_lt_of_cell? W6 ⟨w5.heap.size, 0, none⟩ z0
      have CBX : Hid (∀ w', Nw W6 w' → w'.cell? ⟨w5.heap.size, 0, none⟩ = some (.slice (some ⟨gx, 0, none⟩) np np) ∧ w'.cell? ⟨w5.heap.size, 1, none⟩ = some (.bool cl)) := fun w' k => ⟨((bcell k).1 _ _ LB6).trans z0, ((bcell k).1 _ _ LB6).trans z1⟩
      have S6 : Hid (w5.heap.size < W6.heap.size) := LB6
      have M6 : Hid (Nw W1 W6) := Nw.trans M5.out A6.out
      have HW6 : Hid (_ = W6) := hW6
      clear hW6 z0 z1 LB6
      go_wp2_with fail
      rw [HW6.out]
      refine Calls.mono (HTI.out _ M6.out) ?_
      rintro e w7 ⟨rfl, n7, l7⟩
      have M7 : Hid (Nw W1 w7) := Nw.trans M6.out n7
      have A7 : Hid (Nw W6 w7) := n7
      have L7 : Hid (LayI w7 W6.heap.size ns) := l7
      have GI : Hid (W6.heap.size < w7.heap.size) := l7.1
      have HD7 : Hid _ := HD.out w7 gx W6.heap.size (LayPt.nw (LayPt.nw L5.out A6.out) n7) l7
      obtain ⟨x0, x1⟩ := CBX.out _ n7
      clear n7 l7
      go_wp2_with fail
      refine Calls.mono HD7.out ?_
      rintro e w8 ⟨v8, rfl, ⟨it8, o8, hit8⟩, n8⟩
      obtain ⟨ga, gn, gc, hv8⟩ := OwnQ.slice o8.own
      subst hv8
      have O8 : Hid (OwnLn w8 w7.heap.size (.slice ga gn gc) it8) := o8
      have HI8 : Hid (it8.map (·.2) = M) := hit8
      have R8 : Hid (RowL w8 (.slice ga gn gc) M) := by show RowL _ _ _; have := o8.row; rw [hit8] at this; exact this
      have B47 : Hid (Nw w4 w7) := Nw.trans A5.out (Nw.trans A6.out A7.out)
      have M8 : Hid (Nw W1 w8) := Nw.trans M7.out n8
      have A8 : Hid (Nw w7 w8) := n8
      have Z8 : Hid (it8.length ≤ 1048576 ∧ manyL (it8.map (·.2)) ≤ 1048576) := by
        refine ⟨?_, by rw [hit8]; have := HMM.out; omega⟩
        have := congrArg List.length hit8
        simp at this
        have := HML.out
        omega
      clear n8 o8 hit8 x0 x1 HD7
      go_wp2_with fail
      refine Calls.mono (HE.out _ _ _ R8.out (RowL.nw R4.out (Nw.trans B47.out A8.out))) ?_
      rintro e w9 ⟨rfl, n9⟩
      have A9 : Hid (Nw w7 w9) := Nw.trans A8.out n9
      have O9 : Hid (OwnLn w9 w7.heap.size (.slice ga gn gc) it8) := OwnLn.nw O8.out n9
      clear n9 R8 O8
      have D9 : Hid (Nw w7 w9.drew) := Nw.trans A9.out ((Below.refl _ _).drew)
      obtain ⟨c0, c1⟩ := CBL.out w9.drew (Nw.trans M7.out D9.out)
      obtain ⟨x0, x1⟩ := CBX.out w9.drew (Nw.trans A7.out D9.out)
      have C4 : Hid _ := And.intro (And.intro c0 c1) (And.intro x0 x1)
      have HT9 : Hid (Calls Try.prog 7 #[.agg #[.slice pa np pc, .bool cl]] w9.drew fun e w' => ∃ v, e = .returned (.agg #[v, .bool cl]) ∧ (Nw w9.drew w' ∧ RowP w' v p)) := by
        refine Calls.mono (HT.out w9.drew (Nw.trans M7.out D9.out)) ?_
        rintro e w' ⟨g, rfl, n, _, l⟩
        have l2 : LayPt w' g p p.length := by rw [HNP.out]; exact l
        have r2 := l2.rowp
        rw [HNP.out] at r2
        exact ⟨_, rfl, n, r2⟩
      have HE9 : Hid (∀ w' v, (Nw w9.drew w' ∧ RowP w' v p) → Calls Try.prog 11 #[.agg #[.slice (some ⟨gx, 0, none⟩) np np, .bool cl], .agg #[v, .bool cl]] w' fun e w'' => e = .returned (.bool true) ∧ Nw w9.drew w'') := fun w' v ⟨n, r⟩ => by
        refine Calls.mono (eqLine_any w' (.slice (some ⟨gx, 0, none⟩) np np) v p cl (by rw [HNP.out]; exact HP1.out) ?_ r) ?_
        · have l := LayPt.nw (LayPt.nw L5.out A6.out) (Nw.trans A7.out (Nw.trans D9.out n))
          rw [← HNP.out] at l ⊢
          exact l.rowp
        · rintro e w'' ⟨rfl, n2⟩
          exact ⟨rfl, Nw.trans n n2⟩
      clear c0 c1 x0 x1
      go_wp2
      refine reg_change (ops' := opsOf 13 Try.f3) (by kernel_rfl) ?_
      refine DL13.run ⟨w.heap.size, w5.heap.size, pa, np, pc, cl, gx, fun w' v => Nw w9.drew w' ∧ RowP w' v p, fun w' => Nw w9.drew w', w9.drew, _⟩ ⟨C4.out.1.1, C4.out.1.2, C4.out.2.1, C4.out.2.2, HT9.out, fun _ _ h => h.1, HE9.out, rfl, rfl, rfl⟩ w9 rfl ?_
      rintro γ w10 ⟨g2', n10⟩
      simp only at n10
      have A10 : Hid (Nw w7 w10) := Nw.trans D9.out n10
      have O10 : Hid (OwnLn w10 w7.heap.size (.slice ga gn gc) it8) := OwnLn.nw (OwnLn.nw O9.out ((Below.refl _ _).drew)) n10
      simp only [g2', Act.put, List.setIfInBounds_toArray, List.set_cons_zero, List.set_cons_succ]
      generalize γ 0 = y0 at *
      generalize γ 1 = y1 at *
      clear n10 g2' HT9 HE9 C4 O9 D9
      go_wp2_with fail
      refine Calls.mono (HTI.out _ (Nw.trans M7.out A10.out)) ?_
      rintro e w11 ⟨rfl, n11, l11⟩
      have A11 : Hid (Nw w7 w11) := Nw.trans A10.out n11
      have O11 : Hid (OwnLn w11 w7.heap.size (.slice ga gn gc) it8) := OwnLn.nw O10.out n11
      have HEI : Hid _ := eqI_any w11 (.slice (some ⟨W6.heap.size, 0, none⟩) nn nn) (.slice (some ⟨w10.heap.size, 0, none⟩) nn nn) ns (by rw [HNN.out]; exact HN1.out) (by have := LayI.row (c := nn) (LayI.nw L7.out A11.out); rw [HNN.out] at this; exact this) (by have := LayI.row (c := nn) l11; rw [HNN.out] at this; exact this)
      clear n11 l11 O10
      go_wp2_with fail
      refine Calls.mono HEI.out ?_
      rintro e w12 ⟨rfl, n12⟩
      have A12 : Hid (Nw w7 w12) := Nw.trans A11.out n12
      have O12 : Hid (OwnLn w12 w7.heap.size (.slice ga gn gc) it8) := OwnLn.nw O11.out n12
      obtain ⟨x0, x1⟩ := CBX.out w12 (Nw.trans A7.out A12.out)
      have HMK := markLine_lay w12 gx p cl 1 (by rw [HNP.out]; exact HP1.out) (by omega) (by have := LayPt.nw (LayPt.nw L5.out A6.out) (Nw.trans A7.out A12.out); rw [← HNP.out] at this; exact this)
      rw [HNP.out] at HMK
      have HMKL : Hid _ := HMK
      clear n12 O11 HEI HMK
      go_wp2_with fail
      refine Calls.mono HMKL.out ?_
      rintro e w13 ⟨rfl, g13⟩
      have s57 : w5.heap.size ≤ w7.heap.size := Below.size (Nw.trans A6.out A7.out)
      have m13 := mid_gr (lo := w4.heap.size) (hi := w7.heap.size) g13 GX.out.1 (by have := GX.out.2; omega)
      have s12 : w7.heap.size ≤ w12.heap.size := Below.size A12.out
      have s47 : w4.heap.size ≤ w7.heap.size := Below.size B47.out
      have O13 : Hid (OwnLn w13 w7.heap.size (.slice ga gn gc) it8) := OwnLn.mid O12.out m13 (Nat.le_refl _)
      have L13 : Hid (LayI w13 W6.heap.size ns) := by
        have l := LayI.nw L7.out A12.out
        have hb : gx ≠ W6.heap.size := by have := GX.out.2; have := Below.size A6.out; omega
        have hlt := l.1
        have e := fun o => World.cell?_of_block (w := w12) (w' := w13) (a := ⟨W6.heap.size, o, none⟩) (g13.block W6.heap.size hlt (fun e => by injection e; omega))
        have ef := fun o => World.frozen?_of_block (w := w12) (w' := w13) (a := ⟨W6.heap.size, o, none⟩) (g13.block W6.heap.size hlt (fun e => by injection e; omega))
        exact ⟨Nat.lt_of_lt_of_le hlt g13.size, fun i hi => (e i).trans (l.2.1 i hi), fun o => (ef o).trans (l.2.2 o)⟩
      have B13 : Hid (Nw w4 w13) := nw_midD (Nw.trans B47.out A12.out) m13 (Nat.le_refl _) (by omega)
      have M13 : Hid (Nw W1 w13) := nw_midD (Nw.trans M7.out A12.out) m13 (Below.size M4.out) (by omega)
      have S13 : Hid (w7.heap.size ≤ w13.heap.size) := Nat.le_trans s12 g13.size
      have HMI := markI_any w13 W6.heap.size nn (1 + 2 * np) ns (by rw [HNN.out]; exact HN1.out) (by have := HP1.out; omega) L13.out
      rw [HNN.out] at HMI
      have HMI2 : Hid _ := HMI
      clear g13 m13 s57 s12 s47 x0 x1 O12 HMKL HMI
      go_wp2_with fail
      refine Calls.mono HMI2.out ?_
      rintro e w14 ⟨rfl, g14, _⟩
      have m14 := mid_gr (lo := w4.heap.size) (hi := w7.heap.size) g14 (by have := GX.out; have := Below.size A6.out; omega) GI.out
      have s47 : w4.heap.size ≤ w7.heap.size := Below.size B47.out
      have O14 : Hid (OwnLn w14 w7.heap.size (.slice ga gn gc) it8) := OwnLn.mid O13.out m14 (Nat.le_refl _)
      have s13 := S13.out
      have B14 : Hid (Nw w4 w14) := nw_midD B13.out m14 (Nat.le_refl _) (by omega)
      have M14 : Hid (Nw W1 w14) := nw_midD M13.out m14 (Below.size M4.out) (by omega)
      have S14 : Hid (w7.heap.size ≤ w14.heap.size) := Nat.le_trans S13.out g14.size
      have R14 : Hid (RowL w14 (.slice ga gn gc) M) := by show RowL _ _ _; have := O14.out.row; rw [HI8.out] at this; exact this
      have hk0 : decide (((1 + 2 * np + nn : Nat) : Int) < 0) = false := by simp; omega
      clear g14 m14 s47 s13 O13 L13 HMI2
      generalize ((1 + 2 * np + nn : Nat) : Int) = kk at *
      go_wp2_with fail
      refine Calls.mono (HE.out _ _ _ R14.out (RowL.nw R4.out B14.out)) ?_
      rintro e w15 ⟨rfl, n15⟩
      have B15 : Hid (Nw w4 w15) := Nw.trans B14.out n15
      have M15 : Hid (Nw W1 w15) := Nw.trans M14.out n15
      have O15 : Hid (OwnLn w15 w7.heap.size (.slice ga gn gc) it8) := OwnLn.nw O14.out n15
      have S15 : Hid (w7.heap.size ≤ w15.heap.size) := Nat.le_trans S14.out (Below.size n15)
      have hmk := markL_own w15 w7.heap.size (.slice ga gn gc) it8 O15.out Z8.out.1 Z8.out.2
      have hhd : Hid (∀ w, MkdL w (.slice ga gn gc) it8 1 → _) := fun w h => heldL_own w (.slice ga gn gc) it8 h Z8.out.1 Z8.out.2
      generalize kAt (nsOf it8) 1 it8.length = mm at hmk hhd
      have HMK : Hid _ := hmk
      have hm0 : decide ((mm : Int) < 0) = false := decide_eq_false (by omega)
      have hmm : ((mm : Int) != (mm : Int)) = false := by simp
      clear n15 R14 O14 hmk
      go_wp2_with fail
      refine Calls.mono HMK.out ?_
      rintro e w16 ⟨rfl, m16, h16⟩
      have s47 : w4.heap.size ≤ w7.heap.size := Below.size B47.out
      have B16 : Hid (Nw w4 w16) := nw_midD B15.out m16 s47 S15.out
      have M16 : Hid (Nw W1 w16) := nw_midD M15.out m16 (Nat.le_trans (Below.size M4.out) s47) S15.out
      have H16 : Hid (MkdL w16 (.slice ga gn gc) it8 1) := h16
      clear m16 h16 s47 HMK O15
      go_wp2_with fail
      refine Calls.mono (hhd.out _ H16.out) ?_
      rintro e w17 ⟨rfl, rfl⟩
      obtain ⟨c0, c1⟩ := CBL.out _ M16.out
      go_wp2_with fail
      refine Calls.mono (HT.out _ M16.out) ?_
      rintro e w18 ⟨g18, rfl, n18, hg18, l18⟩
      have M18 : Hid (Nw W1 w18) := Nw.trans M16.out n18
      have B18 : Hid (Nw w4 w18) := Nw.trans B16.out n18
      have H18 : Hid (MkdL w18 (.slice ga gn gc) it8 1) := MkdL.nw H16.out n18
      have L18 : Hid (LayPt w18 g18 p np) := l18
      clear n18 l18 hg18 c0 c1
      go_wp2_with fail
      refine Calls.mono (HTI.out _ M18.out) ?_
      rintro e w19 ⟨rfl, n19, l19⟩
      have M19 : Hid (Nw W1 w19) := Nw.trans M18.out n19
      have B19 : Hid (Nw w4 w19) := Nw.trans B18.out n19
      have H19 : Hid (MkdL w19 (.slice ga gn gc) it8 1) := MkdL.nw H18.out n19
      have HD19 : Hid _ := HD.out w19 g18 w18.heap.size (LayPt.nw L18.out n19) l19
      clear n19 l19
      go_wp2_with fail
      refine Calls.mono HD19.out ?_
      rintro e w20 ⟨v20, rfl, ⟨it20, o20, hit20⟩, n20⟩
      obtain ⟨ka, kn, kc, hv20⟩ := OwnQ.slice o20.own
      subst hv20
      have R20 : Hid (RowL w20 (.slice ka kn kc) M) := by show RowL _ _ _; have := o20.row; rw [hit20] at this; exact this
      have M20 : Hid (Nw W1 w20) := Nw.trans M19.out n20
      have B20 : Hid (Nw w4 w20) := Nw.trans B19.out n20
      have H20 : Hid (MkdL w20 (.slice ga gn gc) it8 1) := MkdL.nw H19.out n20
      clear n20 o20 hit20 HD19
      go_wp2_with fail
      refine Calls.mono (HE.out _ _ _ R20.out (RowL.nw R4.out B20.out)) ?_
      rintro e w21 ⟨rfl, n21⟩
      have M21 : Hid (Nw w w21) := Nw.trans N1.out (Nw.trans M20.out n21)
      have H21 : Hid (MkdL w21 (.slice ga gn gc) it8 1) := MkdL.nw H20.out n21
      clear n21
      go_wp2_with fail
      refine Calls.mono (hhd.out _ H21.out) ?_
      rintro e w22 ⟨rfl, rfl⟩
      go_wp2
      go_ret
      exact ⟨rfl, M21.out⟩
    · rw [if_neg (by omega)] at HZ
      generalize p.length = np at *
      generalize ns.length = nn at *
      go_enter Try.func3, Try.ntmps3
      go_wp2_with fail
      rw [HW1.out]
      refine Calls.mono (HZ.out _) ?_
      rintro e w1 ⟨rfl, n1⟩
      have N2 : Hid (Nw w w1) := Nw.trans N1.out n1
      clear n1
      go_wp2
      go_ret
      exact ⟨rfl, N2.out⟩
  · have dn : decide ((1048576 : Int) < (ns.length : Int)) = true := by simp; omega
    generalize p.length = np at *
    generalize ns.length = nn at *
    go_enter Try.func3, Try.ntmps3
    go_wp2
    rw [HW1.out]
    go_ret
    exact ⟨rfl, N1.out⟩
end Go.Proofs.Ytjjndpbplclidaa
namespace Go.Proofs.Ytjjndpbplclidaa
open Go.ChangeShapes Go.WideShapes Go.ChangeAt Go.RowKit Go.Deep
set_option linter.unusedVariables false

def iv : Value → Int
  | .int _ x => x
  | _ => 0
section
variable {H : Type} {enc : TypeId × Value → H} {W : World} {base : Nat} {held : Bool}
theorem open_pts {fuel : Nat} {v : Value} {x : DataW H × List MemPlace} (h : DataW.trod enc Try.prog W base (fun _ => true) held fuel 22 [v] = some x) :
    ∃ a l c, v = .slice a l.length c ∧ Pts W a l ∧ l.length ≤ maxLen := by
  rcases open_slice_pairs Try.underlying22 Try.underlying92 (by kernel_rfl) rfl rfl (by kernel_rfl) (by kernel_rfl) h with ⟨hcs, _⟩ | ⟨a, len, cap, m, n, V0, V1, D0, D1, P0, P1, hcs, _, hl, hm, hmm, _, hx⟩
  · simp at hcs
    exact ⟨none, [], 0, hcs, Or.inl rfl, by simp⟩
  · simp at hcs hmm
    subst hmm
    have key : ∀ i, i < m → ∃ s t : Int, V0 i = .int .i64 s ∧ V1 i = .int .i64 t := by
      intro i hi
      obtain ⟨_, _, g0, g1⟩ := hx i hi
      obtain ⟨s, e0, _, hs⟩ := DataW.trod_int Try.underlying3 g0
      obtain ⟨t, e1, _, ht⟩ := DataW.trod_int Try.underlying3 g1
      simp at e0 e1
      exact ⟨s, t, e0, e1⟩
    refine ⟨some a, (List.range len).map fun i => (iv (V0 i), iv (V1 i)), m, by simpa using hcs, ?_, by simp; omega⟩
    by_cases h0 : len = 0
    · subst h0; exact Or.inl rfl
    · have ea := addr_spot (show W.cell? (a.add 0) = some (V0 0) by simpa using (hx 0 (by omega)).1)
      refine Or.inr ⟨a.block, a.off, by rw [← ea], ?_, fun i hi => ?_⟩
      · have := (hx 0 (by omega)).1
        rw [ea, add_at] at this
        exact World.block_lt_of_cell? W ⟨a.block, a.off + 0 * 2, none⟩ this
      · have hi' : i < len := by simpa using hi
        obtain ⟨s, t, e0, e1⟩ := key i (by omega)
        obtain ⟨g0, g1, _, _⟩ := hx i (by omega)
        rw [ea, add_at] at g0 g1
        have ep : ptAt ((List.range len).map fun i => (iv (V0 i), iv (V1 i))) i = (s, t) := by simp [ptAt, hi', e0, e1, iv]
        rw [ep, g0, e0, Nat.add_assoc, g1, e1]
        exact ⟨rfl, rfl⟩
set_option maxRecDepth 100000 in
theorem open_points {r : Reach} {b0 : Nat} {v : Value} {d : DataW H} {p : List MemPlace} (hv : Value.okWide Try.prog W r b0 22 v) (h : DataW.Trod enc Try.prog W base (fun _ => true) held 22 v d p) :
    ∃ a l c, v = .slice a l.length c ∧ Pts W a l ∧ l.length ≤ maxLen := by
  obtain ⟨a0, len, cap, rfl⟩ := okWide_slice Try.underlying22 hv
  obtain ⟨fuel, hf⟩ := h
  exact open_pts (by simpa [Value.cells] using hf)
end
end Go.Proofs.Ytjjndpbplclidaa
