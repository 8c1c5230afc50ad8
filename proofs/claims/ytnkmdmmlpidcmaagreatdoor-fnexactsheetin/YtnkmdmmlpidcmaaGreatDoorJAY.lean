/-
  Rules out of one sheet laid behind those of another one; each theorem names its conditions.
  Where what is below a node ends, the program's; each theorem names its conditions.
  The text under a node, the program's; each theorem names its conditions.
  The sheet of a tree, the program's; each theorem names its conditions.
-/
import Derived.Test.YtnkmdmmlpidcmaaGreatDoorJAX
import Derived.Test.YtnkmdmmlpidcmaaGreatDoorJAT
import Derived.Test.YtnkmdmmlpidcmaaGreatDoorJAP
import Derived.Test.YtnkmdmmlpidcmaaGreatDoorJAK
namespace Go.Proofs.YtnkmdmmlpidcmaaGreatDoor
open Go.ChangeShapes Go.WideShapes Go.ChangeAt Go.RowKit
set_option linter.unusedVariables false

def ShnSays (f : FuncId) (W : World) (a : Option Addr) (c : Nat) (l : List ND) : Prop := Calls Tryz.prog f #[.slice a l.length c] W fun e w' => ∃ v, e = .returned v ∧ RowM 2 ERule w' v (shN l) (iv W w') ∧ Nw W w'
theorem more30 {α : Type} (a b : List α) (j : Nat) (x : α) (hj : b[j]? = some x) (c : List α) (hc : c = (a ++ b.take j).take 30) : (c.length < 30 → c ++ [x] = (a ++ b.take (j + 1)).take 30) ∧ (¬ c.length < 30 → c = (a ++ b.take (j + 1)).take 30) := by
  have e : b.take (j + 1) = b.take j ++ [x] := by rw [List.take_add_one, hj]; rfl
  rw [e, ← List.append_assoc]
  generalize a ++ b.take j = d at *
  subst hc
  refine ⟨fun h => ?_, fun h => ?_⟩
  · rw [List.length_take] at h
    have : d.length < 30 := by omega
    rw [List.take_of_length_le (l := d) (by omega), List.take_of_length_le (by simp; omega)]
  · rw [List.length_take] at h
    have : 30 ≤ d.length := by omega
    rw [List.take_append_of_le_length this]
/-- Where a list's elements lie. -/
def Lies2 (w2 : World) (va : Option Addr) (l2 : List (El RD)) (F : Nat → Prop) : Prop := l2 = [] ∨ ∃ g, va = some ⟨g, 0, none⟩ ∧ RowA 2 ERule w2 g l2 F
theorem RowM.lies {w : World} {v : Value} {xs : List RD} {F : Nat → Prop} (h : RowM 2 ERule w v xs F) : ∃ va c l2, v = .slice va l2.length c ∧ l2.length ≤ c ∧ l2.map El.x = xs ∧ Lies2 w va l2 F := by
  rcases h with ⟨h1, h2⟩ | ⟨g, c, els, h1, h2, h3, h4⟩
  · exact ⟨none, 0, [], h1, Nat.le_refl _, h2.symm, Or.inl rfl⟩
  · have e : els.length = xs.length := by rw [← h3, List.length_map]
    exact ⟨_, c, els, by rw [e]; exact h1, by rw [e]; exact h2, h3, Or.inr ⟨g, rfl, h4⟩⟩
theorem Lies2.inF {w : World} {va : Option Addr} {l2 : List (El RD)} {F : Nat → Prop} (h : Lies2 w va l2 F) : ∀ e, e ∈ l2 → ∀ b, e.F b → F b := by
  intro e he b hb
  rcases h with h | ⟨g, _, h⟩
  · rw [h] at he; cases he
  · exact ((h.el e he).2.2 b hb).1
theorem ERule.two {w : World} {cs : List Value} {x : RD} {F : Nat → Prop} (h : ERule w cs x F) : ∃ a1 n1 c1 a2 n2 c2, cs = [.slice a1 n1 c1, .slice a2 n2 c2] := by
  obtain ⟨v1, v2, F1, F2, h1, h2, h3, _⟩ := h
  obtain ⟨a1, c1, e1, _⟩ := h2.slice
  obtain ⟨a2, c2, e2, _⟩ := h3.slice
  exact ⟨a1, _, c1, a2, _, c2, by rw [h1, e1, e2]⟩
/-- Rules appended one behind the other: j of them have been looked at. -/
structure InL (w wo w2 : World) (a0 : List RD) (l2 : List (El RD)) (j : Nat) (v : Value) (els : List (El RD)) (wq : World) : Prop where
  row : RowO 32 2 ERule wq w.heap.size v els
  xs : els.map El.x = (a0 ++ (l2.map El.x).take j).take 30
  wr : Wr (fun b => w.heap.size ≤ b ∧ ¬ iv wo w2 b) w2 wq
  out : ∀ b, v.ownBlock = some b → ¬ iv wo w2 b
  off : ∀ e, e ∈ els → ∀ i e2, l2[i]? = some e2 → j ≤ i → disj e.F e2.F
theorem InL.start {w wo w2 : World} {l2 : List (El RD)} {v : Value} {els : List (El RD)} {va : Option Addr} (h : RowO 32 2 ERule wo w.heap.size v els) (k : Nw wo w2) (h30 : els.length ≤ 30) (hl : Lies2 w2 va l2 (iv wo w2)) : InL w wo w2 (els.map El.x) l2 0 v els w2 := by
  refine ⟨h.nw ERule.kept k, ?_, Wr.refl _ _, fun b hb hc => ?_, fun e he i e2 h2 _ b hb hc => ?_⟩
  · rw [List.take_zero, List.append_nil, List.take_of_length_le (by rw [List.length_map]; exact h30)]
  · have := (h.lt b hb).2; have := hc.1; omega
  · have := ((h.el e he).2.2 b hb).2.1
    have := (hl.inF e2 (List.mem_of_getElem? h2) b hc).1
    omega
theorem InL.lies {w wo w2 wq : World} {a0 : List RD} {l2 : List (El RD)} {j : Nat} {v : Value} {els : List (El RD)} {va : Option Addr} (h : InL w wo w2 a0 l2 j v els wq) (hl : Lies2 w2 va l2 (iv wo w2)) : Lies2 wq va l2 (iv wo w2) := by
  rcases hl with hl | ⟨g, h1, h2⟩
  · exact Or.inl hl
  · exact Or.inr ⟨g, h1, h2.kept ERule.kept h.wr (fun b hb hc => hc.2 hb)⟩
theorem InL.up {w wo w2 wq wx : World} {a0 : List RD} {l2 : List (El RD)} {j : Nat} {v : Value} {els : List (El RD)} (h : InL w wo w2 a0 l2 j v els wq) (k : Nw wq wx) : InL w wo w2 a0 l2 j v els wx :=
  ⟨h.row.nw ERule.kept k, h.xs, h.wr.trans (Wr.nw k), h.out, h.off⟩
theorem InL.elts {w wo w2 wq : World} {a0 : List RD} {l2 : List (El RD)} {j : Nat} {v : Value} {els : List (El RD)} {va : Option Addr} (h : InL w wo w2 a0 l2 j v els wq) (hl : Lies2 w2 va l2 (iv wo w2)) (hw : w.heap.size ≤ wo.heap.size) {e2 : El RD} (hj : l2[j]? = some e2) :
    Elts 2 ERule wq w.heap.size v els [e2] := by
  have hs := h.wr.size
  have hm := List.mem_of_getElem? hj
  refine ⟨fun e he => ?_, List.pairwise_singleton _ _, fun e he b hb => ?_⟩
  · rw [List.mem_singleton] at he
    subst he
    rcases h.lies hl with h0 | ⟨g, _, hA⟩
    · rw [h0] at hm; cases hm
    · obtain ⟨a1, a2, a3⟩ := hA.el e hm
      refine ⟨a1, a2, fun b hb => ?_⟩
      have hi := (a3 b hb).1
      exact ⟨Nat.le_trans hw hi.1, by have := hi.2; omega, fun hc => h.out b hc hi⟩
  · rw [List.mem_singleton] at hb
    subst hb
    exact h.off e he j b hj (Nat.le_refl _)
theorem InL.put {w wo w2 wq w' : World} {a0 : List RD} {l2 : List (El RD)} {j : Nat} {v v' : Value} {els : List (El RD)} (h : InL w wo w2 a0 l2 j v els wq) (hap : l2.Pairwise fun a b => disj a.F b.F) {e2 : El RD} (hj : l2[j]? = some e2) (h30 : els.length < 30)
    (hr : RowO 32 2 ERule w' w.heap.size v' (els ++ [e2])) (hx : Ext v v' wq w') : InL w wo w2 a0 l2 (j + 1) v' (els ++ [e2]) w' := by
  have hs := h.wr.size
  have hx2 : (l2.map El.x)[j]? = some e2.x := by rw [List.getElem?_map, hj]; rfl
  refine ⟨hr, ?_, h.wr.trans (Wr.ext hx (fun b hb => ⟨(h.row.lt b hb).1, h.out b hb⟩)), fun b hb hc => ?_, fun e he i e3 hi hle => ?_⟩
  · rw [List.map_append]
    exact (more30 _ _ j _ hx2 _ h.xs).1 (by rw [List.length_map]; exact h30)
  · exact hx.apart (by have := hc.2; omega) (fun e => h.out b e hc) hb
  · rcases List.mem_append.1 he with he | he
    · exact h.off e he i e3 hi (by omega)
    · rw [List.mem_singleton] at he
      subst he
      have a := List.pairwise_iff_getElem.1 hap
      obtain ⟨p1, p2⟩ := List.getElem?_eq_some_iff.1 hj
      obtain ⟨q1, q2⟩ := List.getElem?_eq_some_iff.1 hi
      have := a j i p1 q1 (by omega)
      rw [p2, q2] at this
      exact this
theorem InL.skip {w wo w2 wq : World} {a0 : List RD} {l2 : List (El RD)} {j : Nat} {v : Value} {els : List (El RD)} (h : InL w wo w2 a0 l2 j v els wq) {e2 : El RD} (hj : l2[j]? = some e2) (h30 : ¬ els.length < 30) : InL w wo w2 a0 l2 (j + 1) v els wq := by
  have hx2 : (l2.map El.x)[j]? = some e2.x := by rw [List.getElem?_map, hj]; rfl
  exact ⟨h.row, (more30 _ _ j _ hx2 _ h.xs).2 (by rw [List.length_map]; exact h30), h.wr, h.out, fun e he i e3 hi hle => h.off e he i e3 hi (by omega)⟩
theorem Lies2.apart {w : World} {va : Option Addr} {l2 : List (El RD)} {F : Nat → Prop} (h : Lies2 w va l2 F) : l2.Pairwise fun a b => disj a.F b.F := by
  rcases h with h | ⟨g, _, h⟩
  · rw [h]; exact List.Pairwise.nil
  · exact h.apart
theorem InL.nw {w wo w2 wq : World} {a0 : List RD} {l2 : List (El RD)} {j : Nat} {v : Value} {els : List (El RD)} (h : InL w wo w2 a0 l2 j v els wq) (k : Nw w w2) (hw : w.heap.size ≤ w2.heap.size) : Nw w wq :=
  Below.trans k (h.wr.below (B := w.heap.size) (fun x hx => hx.1) hw)
end Go.Proofs.YtnkmdmmlpidcmaaGreatDoor
namespace Go.Proofs.YtnkmdmmlpidcmaaGreatDoor
open Go.ChangeShapes Go.WideShapes Go.ChangeAt Go.RowKit
set_option linter.unusedVariables false

theorem iend (w : World) (a : Option Addr) (c : Nat) (l : List ND) (k : Nat) (hk : k < l.length) (hl : l.length ≤ 60) (hr : Nodes w a l) :
    Calls Tryz.prog 97 #[.slice a l.length c, .int .i64 k] w fun e w' => (∃ n : Nat, EndAt l k n ∧ e = .returned (.int .i64 n)) ∧ w' = w := by
  rcases hr with h | ⟨b, o, rfl, hb, hc⟩
  · rw [h] at hk; simp at hk
  have HC : Hid (∀ i, i < l.length → w.cell? ⟨b, o + i * 4 + 1, none⟩ = some (.int .i64 (upAt l i))) := fun i hi => (hc i hi).2.1
  clear hc hb
  go_enter Tryz.func97, Tryz.ntmps97
  go_wp2
  go_loop [5] (fun x => ∃ n : Nat, k < n ∧ n ≤ l.length ∧ x = .int .i64 n ∧ ∀ j, k < j → j < n → (k : Int) ≤ upAt l j) (fun x => l.length - (intOf x).toNat)
  case atStart => exact ⟨k + 1, by omega, by omega, by go_num, fun j h1 h2 => absurd h1 (by omega)⟩
  case round =>
    obtain ⟨n, hn, hle, rfl, hin⟩ := hrel
    have HI : Hid (∀ j, k < j → j < n → (k : Int) ≤ upAt l j) := hin
    clear hin
    by_cases hlt : n < l.length
    · have q := HC.out n hlt
      have hltI : (n : Int) < l.length := by omega
      by_cases hge : (k : Int) ≤ upAt l n
      · have HI2 : Hid (∀ j, k < j → j < n + 1 → (k : Int) ≤ upAt l j) := fun j h1 h2 => by
          by_cases e : j = n
          · rw [e]; exact hge
          · exact HI.out j h1 (by omega)
        generalize upAt l n = U at *
        go_wp2
        go_round
        case rel => exact ⟨n + 1, by omega, by omega, by go_num, HI2.out⟩
        case measure => simp [intOf]; omega
      · have HO : Hid (EndAt l k n) := ⟨by omega, by omega, HI.out, fun _ => by omega⟩
        generalize upAt l n = U at *
        go_wp2
        go_ret
        exact ⟨⟨n, HO.out, rfl⟩, rfl⟩
    · have hltI : ¬ (n : Int) < l.length := by omega
      go_wp2
      go_ret
      exact ⟨⟨n, ⟨by omega, by omega, HI.out, fun h => absurd h hlt⟩, rfl⟩, rfl⟩
end Go.Proofs.YtnkmdmmlpidcmaaGreatDoor
namespace Go.Proofs.YtnkmdmmlpidcmaaGreatDoor
open Go.ChangeShapes Go.WideShapes Go.ChangeAt Go.RowKit
set_option linter.unusedVariables false

/-- The text of the first d nodes from k on that are k or below it. -/
def uw (l : List ND) (k : Nat) : Nat → ByteArray
  | 0 => ByteArray.empty
  | d + 1 => unT l k d
theorem uw_size {l : List ND} (hz : Small l) (k d : Nat) (h : k + d ≤ l.length) : (uw l k d).size ≤ 1048576 * d + 1048576 := by
  cases d with
  | zero => show ByteArray.empty.size ≤ _; rw [ByteArray.size_empty]; omega
  | succ d => have := unT_size hz k d (by omega); show (unT l k d).size ≤ _; omega
theorem uw_step {l : List ND} (hg : GoodP l) {k n d : Nat} (hk : EndAt l k n) (hd : k + d < n) : uw l k (d + 1) = uw l k d ++ textAt l (k + d) := by
  cases d with
  | zero => show unT l k 0 = ByteArray.empty ++ textAt l (k + 0); rw [ByteArray.empty_append]; rfl
  | succ d =>
    have hu := ups_of l l.length (Nat.le_refl _) hg.2
    have hle := hk.le
    show unT l k (d + 1) = unT l k d ++ _
    rw [unT_yes]
    · rw [show k + 1 + d = k + (d + 1) by omega]
    · rw [show k + 1 + d = k + (d + 1) by omega]
      exact under_in l l.length hu (Nat.le_refl _) k (k + (d + 1) + 1) (k + (d + 1)) (by omega) (by omega) (by omega) fun j h1 h2 => hk.ins j h1 (by omega)
theorem uw_end {l : List ND} (hg : GoodP l) {k n : Nat} (hk : EndAt l k n) : uw l k (n - k) = unT l k (l.length - k - 1) := by
  have h1 := hk.lt
  have h2 := hk.le
  obtain ⟨d, hd⟩ : ∃ d, n - k = d + 1 := ⟨n - k - 1, by omega⟩
  rw [hd]
  show unT l k d = _
  by_cases c : n < l.length
  · have h3 := unT_rest hg k d (by omega) (by rw [show k + 1 + d = n by omega]; exact hk.out c) (l.length - n) (by omega)
    rw [← h3, show d + (l.length - n) = l.length - k - 1 by omega]
  · rw [show d = l.length - k - 1 by omega]
set_option maxHeartbeats 4000000 in
set_option maxRecDepth 100000 in
theorem itextUnder (w : World) (a : Option Addr) (c : Nat) (l : List ND) (k : Int) (hk : -9223372036854775808 ≤ k ∧ k ≤ 9223372036854775807) (hl : l.length ≤ 1048576) (hcap : l.length ≤ c) (ht : Tb w) (hz : Small l) (hr : Nodes w a l) :
    Calls Tryz.prog 53 #[.slice a l.length c, .int .i64 k] w fun e w' => e = .returned (underV l k) ∧ Nw w w' := by
  have HR : Hid (Nodes w a l) := hr
  have HZ : Hid (Small l) := hz
  have HT : Hid (Tb w) := ht
  clear hr hz ht
  by_cases hg : goodB l = true
  · by_cases hin : 0 ≤ k ∧ k < l.length
    · obtain ⟨K, rfl⟩ : ∃ K : Nat, k = K := ⟨k.toNat, by omega⟩
      have HO : Hid (underV l K = .tuple #[.string (unT l K (l.length - K - 1)), .bool true]) := underV_yes (by unfold underOk; rw [hg]; simp; omega)
      have HP : Hid (GoodP l) := (goodB_iff l).1 hg
      have hKl : (K : Int) < l.length := hin.2
      have hKn : K < l.length := by omega
      have h60 : l.length ≤ 60 := HP.out.1.2
      clear hin
      go_enter Tryz.func53, Tryz.ntmps53
      go_wp2_with fail
      refine Calls.mono (igoodNodes _ _ _ l hl HT.out HZ.out HR.out) ?_
      rw [hg]
      rintro e w1 ⟨rfl, k1⟩
      have K1 : Hid (Nw w w1) := k1
      have N1 : Hid (Nodes w1 a l) := HR.out.nw k1
      have F0 : Hid (Bld w1.heap.size w1.heap.size ByteArray.empty (w1.alloc (.cells #[.pointer none, .slice none 0 0] 106))) := Bld.fresh w1
      have B0 : Hid (Below w1.heap.size w1 (w1.alloc (.cells #[.pointer none, .slice none 0 0] 106))) := (Below.refl _ _).alloc (Nat.le_refl _) _
      clear k1 HR
      rcases N1.out with hnil | ⟨b, o, rfl, hb, hc⟩
      · rw [hnil] at hKn; simp at hKn
      clear hc hb
      go_wp2_with fail
      refine Calls.mono (iend _ _ c l K hKn h60 (N1.out.nw B0.out)) ?_
      rintro e w2 ⟨⟨n, hend, rfl⟩, hq⟩
      have hq2 := hq.symm; clear hq; subst hq2
      have HE : Hid (EndAt l K n) := hend
      have hn1 := hend.lt
      have hn2 := hend.le
      clear hend
      go_wp2
      go_loopw [29] (fun i wr => ∃ d : Nat, d ≤ n - K ∧ i = .int .i64 d ∧ Bld w1.heap.size w1.heap.size (uw l K d) wr ∧ Below w1.heap.size w1 wr) (fun i _ => l.length - (intOf i).toNat)
      case atStart => exact ⟨0, Nat.zero_le _, rfl, F0.out, B0.out⟩
      case round =>
        obtain ⟨d, hd, rfl, hbl, hbw⟩ := hrel
        have FB : Hid (Bld w1.heap.size w1.heap.size (uw l K d) wr) := hbl
        have BW : Hid (Below w1.heap.size w1 wr) := hbw
        clear hbl F0 B0
        by_cases hlt : d < n - K
        · rcases N1.out.nw hbw with hh | ⟨b', o', hbo, hb, hc⟩
          · rw [hh] at hKn; simp at hKn
          injection hbo with hbo
          injection hbo with e1 e2
          subst e1; subst e2
          have hkd : K + d < l.length := by omega
          obtain ⟨q0, q1, ⟨aa, cc, q2, qc, qa⟩, q3⟩ := hc (K + d) hkd
          have eo : o + (K + d) * 4 = o + K * 4 + d * 4 := by omega
          rw [eo] at q0 q1 q2 q3
          have hltI : (d : Int) < ((n - K : Nat) : Int) := by omega
          have HS : Hid (uw l K (d + 1) = uw l K d ++ textAt l (K + d)) := uw_step HP.out HE.out (by omega)
          have y1 := uw_size HZ.out K d (by omega)
          have y2 : (textAt l (K + d)).size ≤ 1048576 := (HZ.out (K + d) hkd).text
          have y3 : (uw l K d).size + (textAt l (K + d)).size ≤ 100000000 := by omega
          have HTA : (nodeAt l (K + d)).text = textAt l (K + d) := rfl
          rw [HTA] at q3
          clear hc hbw qa hb y1 y2 HTA
          generalize textAt l (K + d) = T at *
          generalize (nodeAt l (K + d)).name = nm at *
          generalize (nodeAt l (K + d)).up = up at *
          generalize (nodeAt l (K + d)).attrs = at' at *
          have HW3 : Hid (Calls Tryz.prog 70 #[.pointer (some ⟨w1.heap.size, 0, none⟩), .string T] (wr.alloc (.cells #[.string nm, .int .i64 up, .slice aa at'.length cc, .string T] 87)) fun e w' => ∃ v, e = .returned v ∧ Bld w1.heap.size w1.heap.size (uw l K d ++ T) w' ∧ Below w1.heap.size (wr.alloc (.cells #[.string nm, .int .i64 up, .slice aa at'.length cc, .string T] 87)) w') := by
            refine Calls.mono (writeString w1.heap.size w1.heap.size _ T _ (FB.out.alloc _) y3 (Nat.le_trans (Below.size BW.out) (by simp))) ?_
            rintro e w' ⟨rfl, h1, h2⟩
            exact ⟨_, rfl, h1, h2⟩
          have HA : Hid (Below w1.heap.size w1 (wr.alloc (.cells #[.string nm, .int .i64 up, .slice aa at'.length cc, .string T] 87))) := BW.out.alloc (Below.size BW.out) _
          go_wp2_with (go_at_call 70; refine Calls.mono HW3.out ?_; rintro e w3 ⟨v3, rfl, f1, b1⟩)
          go_roundw
          case rel => exact ⟨d + 1, by omega, by go_num, by rw [HS.out]; exact f1, Below.trans HA.out b1⟩
          case measure => simp [intOf]; omega
        · have e : d = n - K := by omega
          subst e
          have hltI : ¬ ((n - K : Nat) : Int) < ((n - K : Nat) : Int) := by omega
          have HM : Hid (uw l K (n - K) = unT l K (l.length - K - 1)) := uw_end HP.out HE.out
          clear hbw
          go_wp2_with (go_at_call 71; refine Calls.mono (bld_string w1.heap.size w1.heap.size _ _ FB.out (Below.size BW.out)) ?_; rintro e w3 ⟨rfl, b1⟩)
          go_ret2
          exact ⟨by rw [HO.out, ← HM.out]; rfl, K1.out.trans (Below.trans BW.out b1)⟩
    · have HO : Hid (underV l k = .tuple #[.string ⟨#[]⟩, .bool false]) := underV_no (by unfold underOk; rw [hg, decide_eq_false hin]; rfl)
      by_cases h0 : k < 0
      · go_enter Tryz.func53, Tryz.ntmps53
        go_wp2_with (go_at_call 52; refine Calls.mono (igoodNodes _ _ _ l hl HT.out HZ.out HR.out) ?_; rw [hg]; rintro e w1 ⟨rfl, k1⟩)
        go_ret2
        exact ⟨by rw [HO.out]; rfl, k1⟩
      · have hge : (l.length : Int) ≤ k := by omega
        clear hin
        go_enter Tryz.func53, Tryz.ntmps53
        go_wp2_with (go_at_call 52; refine Calls.mono (igoodNodes _ _ _ l hl HT.out HZ.out HR.out) ?_; rw [hg]; rintro e w1 ⟨rfl, k1⟩)
        go_ret2
        exact ⟨by rw [HO.out]; rfl, k1⟩
  · have hg' : goodB l = false := by simpa using hg
    have HO : Hid (underV l k = .tuple #[.string ⟨#[]⟩, .bool false]) := underV_no (by unfold underOk; rw [hg']; rfl)
    go_enter Tryz.func53, Tryz.ntmps53
    go_wp2_with (go_at_call 52; refine Calls.mono (igoodNodes _ _ _ l hl HT.out HZ.out HR.out) ?_; rw [hg']; rintro e w1 ⟨rfl, k1⟩)
    go_ret2
    exact ⟨by rw [HO.out]; rfl, k1⟩
end Go.Proofs.YtnkmdmmlpidcmaaGreatDoor
namespace Go.Proofs.YtnkmdmmlpidcmaaGreatDoor
open Go.ChangeShapes Go.WideShapes Go.ChangeAt Go.RowKit
set_option linter.unusedVariables false

theorem litI_no (u : ByteArray) (l : List UInt8) (h : u ≠ ⟨l.toArray⟩) : (u.toList == l) = false := by
  rw [beq_eq_false_iff_ne]
  intro e
  apply h
  apply ByteArray.ext
  apply Array.toList_inj.1
  rw [← e, ByteArray.toList_eq]
theorem litI_yes (u : ByteArray) (l : List UInt8) (h : u = ⟨l.toArray⟩) : (u.toList == l) = true := by
  subst h; simp [ByteArray.toList_eq]
theorem take_cut {α : Type} (b : List α) (n : Nat) : b.take (min b.length n) = b.take n := by
  by_cases h : b.length ≤ n
  · rw [Nat.min_eq_left h, List.take_length, List.take_of_length_le h]
  · rw [Nat.min_eq_right (by omega)]
theorem ERule.one {w : World} {cs : List Value} {x : RD} {F : Nat → Prop} (h : ERule w cs x F) : ∀ u ∈ cs, u.oneCell' = true := by
  obtain ⟨a1, n1, c1, a2, n2, c2, e⟩ := h.two
  intro u hu
  rw [e] at hu
  simp only [List.mem_cons, List.not_mem_nil, or_false] at hu
  rcases hu with rfl | rfl <;> rfl
/-- The first rules of a list that has come up, behind those that are there. -/
theorem elts_take {w wr w2 : World} {v : Value} {els l2 : List (El RD)} {g : Nat} (h : RowO 32 2 ERule wr w.heap.size v els) (k : Nw wr w2) (hw : w.heap.size ≤ wr.heap.size) (hA : RowA 2 ERule w2 g l2 (iv wr w2)) (m : Nat) : Elts 2 ERule w2 w.heap.size v els (l2.take m) := by
  refine ⟨fun e he => ?_, hA.apart.sublist (List.take_sublist _ _), fun e he e2 he2 b hb hc => ?_⟩
  · obtain ⟨a1, a2, a3⟩ := hA.el e (List.mem_of_mem_take he)
    refine ⟨a1, a2, fun b hb => ?_⟩
    have hi := (a3 b hb).1
    refine ⟨Nat.le_trans hw hi.1, hi.2, fun hc => ?_⟩
    have := (h.lt b hc).2
    have := hi.1
    omega
  · have h1 := ((h.el e he).2.2 b hb).2.1
    have h2 := ((hA.el e2 (List.mem_of_mem_take he2)).2.2 b hc).1.1
    omega
set_option maxHeartbeats 2000000 in
theorem isheetA (s : ByteArray) (w : World) (hm : MaxL w) :
    Calls Tryz.prog 9 #[.string s] w fun e w' => ShtSays s w w' e ∧ Nw w w' := by
  by_cases h : 1500 < s.size
  · unfold ShtSays shtL
    have hd : decide (1500 < (s.size : Int)) = true := by simp; omega
    rw [if_pos h, decide_eq_true h]
    clear hm
    go_enter Tryz.func9, Tryz.ntmps9
    go_wp2
    go_ret2
    exact ⟨⟨_, rfl, RowM.nil _ _ _ _⟩, Below.refl _ _⟩
  · exact isheet s w hm (by omega)
set_option maxHeartbeats 8000000 in
theorem isheetIn (w : World) (a : Option Addr) (c : Nat) (l : List ND) (hl : l.length ≤ 1048576) (hcap : l.length ≤ c) (ht : Tb w) (hm : MaxL w) (hz : Small l) (hr : Nodes w a l) : ShnSays 22 w a c l := by
  unfold ShnSays shN
  have HR : Hid (Nodes w a l) := hr
  have HZ : Hid (Small l) := hz
  have HT : Hid (Tb w) := ht
  have HML : Hid (MaxL w) := hm
  clear hr hz ht hm
  cases hg : goodB l
  · go_enter Tryz.func22, Tryz.ntmps22
    go_wp2_with (go_at_call 52; refine Calls.mono (igoodNodes _ _ _ l hl HT.out HZ.out HR.out) ?_; rw [hg]; rintro e w1 ⟨rfl, k1⟩)
    go_ret
    exact ⟨_, rfl, RowM.nil _ _ _ _, k1⟩
  · have HP : Hid (GoodP l) := (goodB_iff l).1 hg
    have h60 : l.length ≤ 60 := HP.out.1.2
    rw [if_pos rfl]
    go_enter Tryz.func22, Tryz.ntmps22
    go_wp2_with fail
    refine Calls.mono (igoodNodes _ _ _ l hl HT.out HZ.out HR.out) ?_
    rw [hg]
    rintro e w1 ⟨rfl, k1⟩
    have S1 : Hid (Nw w w1) := k1
    clear k1
    go_wp2
    go_loopw [3, 15] (fun v i wr => ∃ (k : Nat) (els : List (El RD)), k ≤ l.length ∧ i = .int .i64 k ∧ RowO 32 2 ERule wr w.heap.size v els ∧ els.map El.x = shP l k ∧ Nw w wr) (fun _ i _ => l.length - (intOf i).toNat)
    case atStart => exact ⟨0, [], Nat.zero_le _, rfl, RowO.nil _ _ _ _ _, rfl, S1.out⟩
    case round =>
      obtain ⟨k, els, hk, rfl, hro, hxs, hw⟩ := hrel
      obtain ⟨va, vc, hv⟩ := hro.slice
      subst hv
      have h30 : els.length ≤ 30 := by have := congrArg List.length hxs; rw [List.length_map] at this; rw [this]; exact shP_len l k
      have HRO : Hid (RowO 32 2 ERule wr w.heap.size (.slice va els.length vc) els) := hro
      have HX : Hid (els.map El.x = shP l k) := hxs
      have HW : Hid (Nw w wr) := hw
      have HRw : Hid (Nodes wr a l) := HR.out.nw hw
      clear hro hxs hw
      by_cases hlt : k < l.length
      · have HSU : ∀ o, Hid (Calls Tryz.prog 53 #[.slice a l.length c, .int .i64 k] (wr.alloc o) fun e w' => e = .returned (.tuple #[.string (unT l k (l.length - k - 1)), .bool true]) ∧ Nw (wr.alloc o) w') := fun o => by
          have hn : Nw wr (wr.alloc o) := (Below.refl _ _).alloc (Nat.le_refl _) _
          have := itextUnder (wr.alloc o) a c l (k : Int) (by omega) hl hcap (HT.out.nw (Nw.trans HW.out hn)) HZ.out (HRw.out.nw hn)
          rw [underV_yes (by unfold underOk; rw [hg]; simp; omega)] at this
          exact this
        rcases HRw.out with h | ⟨b, o, rfl, hb, hc⟩
        · rw [h] at hlt; simp at hlt
        obtain ⟨q0, q1, ⟨aa, cc, q2, qc, qa⟩, q3⟩ := hc k hlt
        have HSN : Hid (isSty l k = false → shP l (k + 1) = shP l k) := fun h => shP_no h
        have HSY : Hid (isSty l k = true → shP l (k + 1) = (shP l k ++ shtL (unT l k (l.length - k - 1))).take 30) := fun h => shP_yes h
        have HS : Hid (isSty l k = decide ((nodeAt l k).name = styT)) := rfl
        have hltI : (k : Int) < (l.length : Int) := by omega
        clear hc qa qc
        generalize (nodeAt l k).name = nm at *
        generalize (nodeAt l k).up = up at *
        generalize (nodeAt l k).text = tx at *
        by_cases hnu : nm = styT
        · have hq := litI_yes nm [115, 116, 121, 108, 101] hnu
          have HPP : Hid (shP l (k + 1) = (shP l k ++ shtL (unT l k (l.length - k - 1))).take 30) := HSY.out (by rw [HS.out]; exact decide_eq_true hnu)
          clear hnu HSN HSY HS
          generalize unT l k (l.length - k - 1) = s at *
          have HNA : ∀ o, Hid (Nw wr (wr.alloc o)) := fun o => (Below.refl _ _).alloc (Nat.le_refl _) _
          go_wp2_with fail
          refine Calls.mono (HSU _).out ?_
          rintro e w3 ⟨rfl, k3⟩
          have HN3 : Hid (Nw wr w3) := Nw.trans (HNA _).out k3
          clear k3
          go_wp2_with fail
          refine Calls.mono (isheetA s _ (HML.out.nw (Nw.trans HW.out HN3.out))) ?_
          rintro e w2 ⟨⟨v2, rfl, hr2⟩, k2⟩
          have HN2 : Hid (Nw wr w2) := Nw.trans HN3.out k2
          have HB2 : Hid (w.heap.size ≤ w2.heap.size) := Nat.le_trans (Below.size HW.out) (Below.size HN2.out)
          have HRO2 : Hid (RowO 32 2 ERule w2 w.heap.size (.slice va els.length vc) els) := HRO.out.nw ERule.kept HN2.out
          have hs30 := (shtL_small s).1
          have hr3 := hr2.mono (iv_upR (w := wr) (w2 := w2) (Below.size HN3.out))
          clear hr2 k2 q0 q1 q2 q3 HSU
          rcases hr3 with ⟨rfl, h2⟩ | ⟨g, c2, l2, rfl, h2, h3, hA⟩
          · have HE : Hid (els.map El.x = shP l (k + 1)) := by
              show _ = _
              rw [HPP.out, h2, List.append_nil, ← HX.out, List.take_of_length_le (by rw [List.length_map]; exact h30)]
            have hmin : min (0 : Int) ((30 : Int) - (els.length : Int)) = 0 := by omega
            have HEL : Hid (Elts 2 ERule w2 w.heap.size (.slice va els.length vc) els []) := ⟨fun e h => (by cases h), List.Pairwise.nil, fun _ _ b h => (by cases h)⟩
            have HLL : Hid (els.length + ([] : List (El RD)).length ≤ 10000000) := by show _ ≤ _; simp; omega
            clear h2
            go_wp2_with (at_builtin; (refine wp_rws ERule.kept Tryz.underlying23 info_rule rfl (by decide) (by decide) _ rfl _ _ rfl w.heap.size _ els rfl HRO2.out HB2.out _ rfl [] (Or.inl ⟨rfl, rfl⟩) (fun y hy => (by cases hy)) HEL.out HLL.out ?_))
            intro v' w' r1 r2
            obtain ⟨xa, xc, hx⟩ := r1.slice
            subst hx
            have R1 : Hid (RowO 32 2 ERule w' w.heap.size (.slice xa els.length xc) els) := r1
            have N1 : Hid (Nw w w') := Below.trans (Nw.trans HW.out HN2.out) (r2.below (B := w.heap.size) (fun g e => (HRO.out.lt g e).1) HB2.out)
            clear r1 r2
            go_wp2
            go_roundw
            case rel => exact ⟨k + 1, els, by omega, by go_num, R1.out, HE.out, N1.out⟩
            case measure => simp [intOf]; omega
          · have hle2 : l2.length = (shtL s).length := by rw [← h3, List.length_map]
            rw [← hle2] at h2 hs30 ⊢
            obtain ⟨m, hm⟩ : ∃ m, m = min l2.length (30 - els.length) := ⟨_, rfl⟩
            have hmin : min (l2.length : Int) ((30 : Int) - (els.length : Int)) = (m : Int) := by omega
            have hmc : m ≤ c2 := by omega
            have hml : (l2.take m).length = m := by rw [List.length_take]; omega
            have HE : Hid ((els ++ l2.take m).map El.x = shP l (k + 1)) := by
              show _ = _
              have e1 : m = min (shtL s).length (30 - (shP l k).length) := by rw [hm, hle2, ← HX.out, List.length_map]
              rw [HPP.out, take_join _ _ (shP_len l k), List.map_append, HX.out, List.map_take, h3, e1, take_cut]
            have HEL : Hid (Elts 2 ERule w2 w.heap.size (.slice va els.length vc) els (l2.take m)) := elts_take HRO.out HN2.out (Below.size HW.out) hA m
            have HCE : Hid (∀ j y, ((l2.take m).flatMap (·.cs))[j]? = some y → w2.cell? ⟨g, j, none⟩ = some y) := fun j y hj => hA.flat (by decide) j y (flat_take l2 m j y hj)
            have HONE : Hid (∀ y ∈ (l2.take m).flatMap (·.cs), y.oneCell' = true) := by
              intro y hy
              obtain ⟨e, he, hy⟩ := List.mem_flatMap.1 hy
              exact (hA.el e (List.mem_of_mem_take he)).1.one y hy
            have HML2 : Hid ((l2.take m).length = m) := hml
            have HLL : Hid (els.length + (l2.take m).length ≤ 10000000) := by show _ ≤ _; omega
            clear h3 hA hle2 hm hml
            generalize l2.take m = l3 at *
            go_wp2_with (at_builtin; (refine wp_rws ERule.kept Tryz.underlying23 info_rule rfl (by decide) (by decide) _ rfl _ _ rfl w.heap.size _ els rfl HRO2.out HB2.out _ rfl l3 (Or.inr ⟨g, c2, by rw [HML2.out]; rfl, HCE.out⟩) HONE.out HEL.out HLL.out ?_))
            intro v' w' r1 r2
            obtain ⟨xa, xc, hx⟩ := r1.slice
            subst hx
            have R1 : Hid (RowO 32 2 ERule w' w.heap.size (.slice xa (els ++ l3).length xc) (els ++ l3)) := r1
            have N1 : Hid (Nw w w') := Below.trans (Nw.trans HW.out HN2.out) (r2.below (B := w.heap.size) (fun g e => (HRO.out.lt g e).1) HB2.out)
            clear r1 r2
            generalize els ++ l3 = l4 at *
            go_wp2
            go_roundw
            case rel => exact ⟨k + 1, l4, by omega, by go_num, R1.out, HE.out, N1.out⟩
            case measure => simp [intOf]; omega
        · have hq := litI_no nm [115, 116, 121, 108, 101] hnu
          have HE : Hid (els.map El.x = shP l (k + 1)) := by show _ = _; rw [HSN.out (by rw [HS.out]; exact decide_eq_false hnu)]; exact HX.out
          have HNA : ∀ o, Hid (Nw wr (wr.alloc o)) := fun o => (Below.refl _ _).alloc (Nat.le_refl _) _
          clear hnu HSN HSY HS HSU
          go_wp2
          go_roundw
          case rel => exact ⟨k + 1, els, by omega, by go_num, HRO.out.nw ERule.kept (HNA _).out, HE.out, Nw.trans HW.out (HNA _).out⟩
          case measure => simp [intOf]; omega
      · have hltI : ¬ ((k : Int) < (l.length : Int)) := by omega
        have hke : k = l.length := by omega
        subst hke
        go_wp2
        go_ret
        exact ⟨_, rfl, by rw [← HX.out]; exact RowO.row HRO.out (fun b h1 h2 => ⟨h1, h2⟩), HW.out⟩
end Go.Proofs.YtnkmdmmlpidcmaaGreatDoor
