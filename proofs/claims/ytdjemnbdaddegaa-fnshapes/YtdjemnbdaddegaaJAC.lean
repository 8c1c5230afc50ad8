/-
  Lists of numbers of the call's own, to which numbers are app
-/
import Derived.Test.YtdjemnbdaddegaaJAB
import Derived.Test.YtdjemnbdaddegaaJAA
import Derived.Lib.SlBytesRow
import Derived.Lib.Strings
import Derived.Deep.DeepCutAuto
namespace Go.Proofs.Ytdjemnbdaddegaa
open Go.ChangeShapes Go.WideShapes Go.ChangeAt Go.RowKit
set_option linter.unusedVariables false
theorem ins_parts : ∃ i, Try.prog.info? 3 = some i ∧ i.zero = some (.int .i64 0) ∧ i.size = 1 ∧ i.bytes = 8 := by
 have h : (Try.prog.info? 3).map (fun i => (i.zero, i.size, i.bytes)) = some (some (.int .i64 0), 1, 8) := by kernel_rfl
 obtain ⟨i, hi, hzz⟩ := Option.map_eq_some_iff.1 h
 simp only [Prod.mk.injEq] at hzz
 exact ⟨i, hi, hzz⟩
def Ins (w : World) (B : Nat) (v : Value) (l : List Int) : Prop := w.ownsRow B 3 1 v l.length (l.map (Value.int .i64))
theorem Ins.nil (w : World) (B : Nat) : Ins w B (.slice none 0 0) [] := World.ownsRow_nil w B _ 1
theorem Ins.nw {w w' : World} {B : Nat} {v : Value} {l : List Int} (h : Ins w B v l) (k : Nw w w') : Ins w' B v l :=
 World.ownsRow.kept h (row := none) ⟨Below.os k, Below.tape k, Below.output k, Below.size k, fun b hb _ => Below.block k b hb⟩ (by cases hv : v.ownBlock <;> simp)
theorem Ins.below {w w' : World} {B : Nat} {v v' : Value} {l : List Int} (h : Ins w B v l) (k : Ext v v' w w') (hB : B ≤ w.heap.size) : Below B w w' :=
 k.below (fun g e => (World.ownsRow.lt h g e).1) hB
def intAt (l : List Int) (i : Nat) : Int := l.getD i 0
def LayI (w : World) (g : Nat) (l : List Int) : Prop :=
 g < w.heap.size ∧ (∀ i, i < l.length → w.cell? ⟨g, i, none⟩ = some (.int .i64 (intAt l i))) ∧ ∀ o, w.frozen? ⟨g, o, none⟩ = false
theorem LayI.nw {w w' : World} {g : Nat} {l : List Int} (h : LayI w g l) (k : Nw w w') : LayI w' g l :=
 ⟨Nat.lt_of_lt_of_le h.1 (Below.size k), fun i hi => ((bcell k).1 _ _ h.1).trans (h.2.1 i hi), fun o => ((bcell k).2 _ _ h.1).trans (h.2.2 o)⟩
theorem Ins.lay {w : World} {B : Nat} {v : Value} {l : List Int} (h : Ins w B v l) : (v = .slice none 0 0 ∧ l = []) ∨ ∃ g c, v = .slice (some ⟨g, 0, none⟩) l.length c ∧ B ≤ g ∧ LayI w g l := by
 rcases h.2 with ⟨hn, h0⟩ | ⟨g, cap, cur, h1, h2, h3⟩
 ·exact Or.inl ⟨hn, List.eq_nil_of_length_eq_zero h0⟩
 ·refine Or.inr ⟨g, cap, h1, h2, ?_⟩
  subst h1
  refine ⟨(World.ownsRow.lt h g rfl).2, fun i hi => ?_, fun o => World.ownsRow.frozenAt h o⟩
  have := World.ownsRow.cellAt h i (by omega)
  rw [this]
  simp [intAt, hi]
theorem wp_in (w : World) {ops : Array Oper} {rest : List Oper} {o : Oper} {a : Act} {Q : PQ} (hgd : o.guard = none) (s x : Operand)
  (ho : o.op = .call { callee := .builtin .append, args := #[s, x], argTypes := #[77, 77] })
  (B : Nat) (v : Value) (l : List Int) (t : Int) (hs : a.eval s = v) (hown : Ins w B v l) (g : Nat) (hx : a.eval x = .slice (some ⟨g, 0, none⟩) 1 1) (hc : w.cell? ⟨g, 0, none⟩ = some (.int .i64 t))
  (h63 : l.length ≤ 10000000) (hB : B ≤ w.heap.size)
  (h : ∀ v' w', Ins w' B v' (l ++ [t]) → Ext v v' w w' → wpList Try.prog ops Q rest (a.put o.dst v') w') : wpList Try.prog ops Q (o :: rest) a w := by
 obtain ⟨i0, hi, hz0, hz1, hz2⟩ := ins_parts
 refine wpList_append_own_at w hgd s x 77 ho B 3 i0 (.int .i64 0) 1 8 Try.underlying77 hi hz0 hz1 hz2 rfl (by decide) v l.length (l.map (Value.int .i64)) hs hown ⟨g, 0, none⟩ 1 1 [.int .i64 t] hx rfl (fun j u hj => ?_) (fun u hu => ?_) (by unfold maxLen; omega) (by omega) hB ?_
 ·cases j with
  | zero => simp at hj; subst hj; simpa [Addr.add] using hc
  | succ j => simp at hj
 ·simp at hu; subst hu; rfl
 ·intro v' w' h1 h2 _ h4
  refine h v' w' ?_ ⟨h2, h4.imp id fun e => ⟨_, e, Nat.le_refl _⟩⟩
  unfold Ins
  rw [List.length_append, List.map_append]
  exact h1
theorem size_toList (s : ByteArray) : s.toList.length = s.size := by rw [ByteArray.toList_eq]; exact Array.length_toList
theorem ne_nil {s : ByteArray} (h : 0 < s.size) : ¬ s.toList = [] := by
 intro e; have := size_toList s; rw [e] at this; simp at this; omega
theorem ne_emp {s : ByteArray} (h : 0 < s.size) : s.toList.isEmpty = false := by
 have := ne_nil h
 cases hl : s.toList with
 | nil => exact absurd hl this
 | cons => rfl
theorem empty_of {s : ByteArray} (h : s.size = 0) : s = ⟨#[]⟩ := ByteArray.ext (Array.eq_empty_of_size_eq_zero h)
theorem empn (u : ByteArray) (h : u ≠ ⟨#[]⟩) : u.toList.isEmpty = false ∧ ¬ u.toList = [] := by
 have hs : u.size ≠ 0 := fun e => h (ByteArray.ext (Array.eq_empty_of_size_eq_zero e))
 have h1 := ne_emp (s := u) (by omega)
 exact ⟨h1, fun e => by rw [e] at h1; cases h1⟩
theorem ba_eq {x y : ByteArray} (h : x.data.toList = y.data.toList) : x = y := by
 rw [← Lib.mk_data x, ← Lib.mk_data y, h]
theorem beqn (u : ByteArray) (l : List UInt8) (h : u ≠ ⟨l.toArray⟩) : (u.toList == l) = false := by
 rw [Lib.toList_data, beq_eq_false_iff_ne]
 intro e
 exact h (ba_eq (by rw [e]))
theorem beqy (u : ByteArray) (l : List UInt8) (h : u = ⟨l.toArray⟩) : (u.toList == l) = true := by
 rw [Lib.toList_data, h]
 simp
def Six (w : World) (b : Nat) (x : Nat → Int) : Prop := (∀ j, j < 6 → w.cell? ⟨b, j, none⟩ = some (.int .i64 (x j))) ∧ ∀ o, w.frozen? ⟨b, o, none⟩ = false
def SixE (w : World) (b : Nat) : Prop := ∃ x, Six w b x
theorem Six.lt {w : World} {b : Nat} {x : Nat → Int} (h : Six w b x) : b < w.heap.size := World.block_lt_of_cell? w ⟨b, 0, none⟩ (h.1 0 (by omega))
theorem Six.nw {w w' : World} {b : Nat} {x : Nat → Int} (h : Six w b x) (k : Nw w w') : Six w' b x :=
 ⟨fun j hj => ((bcell k).1 _ _ h.lt).trans (h.1 j hj), fun o => ((bcell k).2 _ _ h.lt).trans (h.2 o)⟩
theorem SixE.lt {w : World} {b : Nat} (h : SixE w b) : b < w.heap.size := by obtain ⟨x, hx⟩ := h; exact hx.lt
theorem SixE.nw {w w' : World} {b : Nat} (h : SixE w b) (k : Nw w w') : SixE w' b := by obtain ⟨x, hx⟩ := h; exact ⟨x, hx.nw k⟩
theorem SixE.set {w : World} {b : Nat} (h : SixE w b) (j : Nat) (v : Int) (hj : j < 6) : SixE (w.setCell ⟨b, j, none⟩ (.int .i64 v)) b := by
 obtain ⟨x, hx⟩ := h
 refine ⟨fun i => if i = j then v else x i, fun i hi => ?_, fun o => by rw [World.frozen?_setCell]; exact hx.2 o⟩
 show _ = some (Value.int .i64 (if i = j then v else x i))
 by_cases e : i = j
 ·subst e
  rw [if_pos rfl]
  exact World.cell?_setCell_same w ⟨b, i, none⟩ _ (hx.1 i hi)
 ·rw [if_neg e, World.cell?_setCell_other _ _ _ _ (fun h => by injection h; omega)]
  exact hx.1 i hi
theorem SixE.off {w : World} {b b2 : Nat} (h : SixE w b) (o : Nat) (v : Value) (hne : b ≠ b2) : SixE (w.setCell ⟨b2, o, none⟩ v) b := by
 obtain ⟨x, hx⟩ := h
 exact ⟨x, fun i hi => (World.cell?_setCell_other _ _ _ _ (fun e => by injection e; omega)).trans (hx.1 i hi), fun i => by rw [World.frozen?_setCell]; exact hx.2 i⟩
theorem Six.new (w : World) (a b c d e f : Int) (t : TypeId) : SixE (w.alloc (.cells #[.int .i64 a, .int .i64 b, .int .i64 c, .int .i64 d, .int .i64 e, .int .i64 f] t)) w.heap.size := by
 refine ⟨fun j => if j = 0 then a else if j = 1 then b else if j = 2 then c else if j = 3 then d else if j = 4 then e else f, fun j hj => ?_, fun o => World.frozen?_alloc_at _ _ _ _ rfl⟩
 rcases (show j = 0 ∨ j = 1 ∨ j = 2 ∨ j = 3 ∨ j = 4 ∨ j = 5 by omega) with rfl | rfl | rfl | rfl | rfl | rfl <;> simp
theorem SixE.get {w : World} {b : Nat} (h : SixE w b) : ∃ a0 a1 a2 a3 a4 a5 : Int, w.cell? ⟨b, 0, none⟩ = some (.int .i64 a0) ∧ w.cell? ⟨b, 1, none⟩ = some (.int .i64 a1) ∧ w.cell? ⟨b, 2, none⟩ = some (.int .i64 a2) ∧ w.cell? ⟨b, 3, none⟩ = some (.int .i64 a3) ∧ w.cell? ⟨b, 4, none⟩ = some (.int .i64 a4) ∧ w.cell? ⟨b, 5, none⟩ = some (.int .i64 a5) ∧ ∀ o, w.frozen? ⟨b, o, none⟩ = false := by
 obtain ⟨x, hx, hf⟩ := h
 exact ⟨_, _, _, _, _, _, hx 0 (by omega), hx 1 (by omega), hx 2 (by omega), hx 3 (by omega), hx 4 (by omega), hx 5 (by omega), hf⟩
theorem SixE.all {w : World} {b : Nat} (h : SixE w b) (a0 a1 a2 a3 a4 a5 : Int) : SixE ((((((w.setCell ⟨b, 0, none⟩ (.int .i64 a0)).setCell ⟨b, 1, none⟩ (.int .i64 a1)).setCell ⟨b, 2, none⟩ (.int .i64 a2)).setCell ⟨b, 3, none⟩ (.int .i64 a3)).setCell ⟨b, 4, none⟩ (.int .i64 a4)).setCell ⟨b, 5, none⟩ (.int .i64 a5)) b :=
 (((((h.set 0 a0 (by omega)).set 1 a1 (by omega)).set 2 a2 (by omega)).set 3 a3 (by omega)).set 4 a4 (by omega)).set 5 a5 (by omega)
theorem nw_six {w wx : World} {b : Nat} (h : Nw w wx) (hb : w.heap.size ≤ b) (v0 v1 v2 v3 v4 v5 : Value) : Nw w ((((((wx.setCell ⟨b, 0, none⟩ v0).setCell ⟨b, 1, none⟩ v1).setCell ⟨b, 2, none⟩ v2).setCell ⟨b, 3, none⟩ v3).setCell ⟨b, 4, none⟩ v4).setCell ⟨b, 5, none⟩ v5) :=
 ((((((Below.setCell h hb _).setCell hb _).setCell hb _).setCell hb _).setCell hb _).setCell hb _)
theorem sset6 (w : World) (b : Nat) (v0 v1 v2 v3 v4 v5 : Value) {u0 u1 u2 u3 u4 u5 : Value} (h0 : w.cell? ⟨b, 0, none⟩ = some u0) (h1 : w.cell? ⟨b, 1, none⟩ = some u1) (h2 : w.cell? ⟨b, 2, none⟩ = some u2) (h3 : w.cell? ⟨b, 3, none⟩ = some u3) (h4 : w.cell? ⟨b, 4, none⟩ = some u4) (h5 : w.cell? ⟨b, 5, none⟩ = some u5) :
  let W := (((((w.setCell ⟨b, 0, none⟩ v0).setCell ⟨b, 1, none⟩ v1).setCell ⟨b, 2, none⟩ v2).setCell ⟨b, 3, none⟩ v3).setCell ⟨b, 4, none⟩ v4).setCell ⟨b, 5, none⟩ v5
  W.cell? ⟨b, 0, none⟩ = some v0 ∧ W.cell? ⟨b, 1, none⟩ = some v1 ∧ W.cell? ⟨b, 2, none⟩ = some v2 ∧ W.cell? ⟨b, 3, none⟩ = some v3 ∧ W.cell? ⟨b, 4, none⟩ = some v4 ∧ W.cell? ⟨b, 5, none⟩ = some v5 := by
 have far : ∀ (w : World) (o o' : Nat) (u : Value), o ≠ o' → (w.setCell ⟨b, o, none⟩ u).cell? ⟨b, o', none⟩ = w.cell? ⟨b, o', none⟩ := fun w o o' u h => World.cell?_setCell_other _ _ _ _ (fun e => by injection e; omega)
 refine ⟨?_, ?_, ?_, ?_, ?_, ?_⟩
 ·rw [far _ 5 0 _ (by omega), far _ 4 0 _ (by omega), far _ 3 0 _ (by omega), far _ 2 0 _ (by omega), far _ 1 0 _ (by omega)]
  exact World.cell?_setCell_same w ⟨b, 0, none⟩ _ h0
 ·rw [far _ 5 1 _ (by omega), far _ 4 1 _ (by omega), far _ 3 1 _ (by omega), far _ 2 1 _ (by omega)]
  exact World.cell?_setCell_same _ ⟨b, 1, none⟩ _ ((far _ 0 1 _ (by omega)).trans h1)
 ·rw [far _ 5 2 _ (by omega), far _ 4 2 _ (by omega), far _ 3 2 _ (by omega)]
  exact World.cell?_setCell_same _ ⟨b, 2, none⟩ _ ((far _ 1 2 _ (by omega)).trans ((far _ 0 2 _ (by omega)).trans h2))
 ·rw [far _ 5 3 _ (by omega), far _ 4 3 _ (by omega)]
  exact World.cell?_setCell_same _ ⟨b, 3, none⟩ _ ((far _ 2 3 _ (by omega)).trans ((far _ 1 3 _ (by omega)).trans ((far _ 0 3 _ (by omega)).trans h3)))
 ·rw [far _ 5 4 _ (by omega)]
  exact World.cell?_setCell_same _ ⟨b, 4, none⟩ _ ((far _ 3 4 _ (by omega)).trans ((far _ 2 4 _ (by omega)).trans ((far _ 1 4 _ (by omega)).trans ((far _ 0 4 _ (by omega)).trans h4))))
 ·exact World.cell?_setCell_same _ ⟨b, 5, none⟩ _ ((far _ 4 5 _ (by omega)).trans ((far _ 3 5 _ (by omega)).trans ((far _ 2 5 _ (by omega)).trans ((far _ 1 5 _ (by omega)).trans ((far _ 0 5 _ (by omega)).trans h5)))))
theorem ssame (w : World) : Calls Try.prog 127 #[] w fun e w' => e = .returned (.agg #[.int .i64 65536, .int .i64 0, .int .i64 0, .int .i64 65536, .int .i64 0, .int .i64 0]) ∧ Nw w w' := by
 go_enter Try.func127, Try.ntmps127
 go_wp2
 refine bodyPost_ret (v := .agg #[.int .i64 65536, .int .i64 0, .int .i64 0, .int .i64 65536, .int .i64 0, .int .i64 0]) (by simp [results, Try.results127, go_sem]) rfl ⟨rfl, ?_⟩
 exact (Below.refl _ _).alloc (Nat.le_refl _) _
set_option maxRecDepth 100000 in
set_option maxHeartbeats 8000000 in
theorem pathText_any (w : World) (B : Nat) (ca : Option Addr) (len cap n : Nat) (hl : len ≤ 9223372036854775807) (hn : n ≤ 500000) (hc : Cur w B ca len cap n) (hd : Code w B ca len) :
  Calls Try.prog 116 #[.pointer (some ⟨B, 0, none⟩)] w fun e w' => TextDrawn 800 e ∧ Cur w' B ca len cap (n + 2000) ∧ Gr B w w' := by
 have hB := hc.lt
 have HC0 : Hid (Cur w B ca len cap n) := hc
 have DC : Hid (∀ w', Gr B w w' → Code w' B ca len) := fun w' h => Code.below hd (h.below (by omega))
 clear hc hd hB
 go_enter Try.func116, Try.ntmps116
 go_wp2_with fail
 refine (of_lit _ B 1 [⟨#[77]⟩, ⟨#[109]⟩] (by decide) 9 ca len cap _ hl (by omega) (by decide) (by decide) (HC0.out) (DC.out _ (Gr.refl _ _))).mono ?_
 rintro e w4 ⟨x, rfl, hx, hc4, hg4⟩
 have C1 : Hid (Cur w4 B ca len cap (n + 2)) := hc4
 have G1 : Hid (Gr B w w4) := (Gr.refl _ _).trans hg4
 clear hc4 hg4
 go_wp2_with fail
 refine (numbersText_any _ B ca len cap _ 2 (by omega) hl (by omega) C1.out (DC.out _ G1.out)).mono ?_
 rintro e w5 ⟨⟨y, rfl, hy⟩, hc5, hg5⟩
 have C2 : Hid (Cur w5 B ca len cap (n + 86)) := hc5.mono (by omega)
 have G2 : Hid (Gr B w w5) := G1.out.trans hg5
 clear hc5 hg5
 have a1 : x.size + y.size ≤ 9223372036854775807 := by omega
 go_wp2_with fail
 refine (pick_any _ B ca len cap _ 5 hl (by omega) (by omega) (by omega) C2.out (DC.out _ G2.out)).mono ?_
 rintro e w3 ⟨v, rfl, v0, v1, hc3, hb3⟩
 have C3 : Hid (Cur w3 B ca len cap (n + 88)) := hc3
 have G3 : Hid (Gr B w w3) := G2.out.trans (Gr.of_sel hb3)
 obtain ⟨m, rfl⟩ := Int.eq_ofNat_of_zero_le v0
 have hm4 : m ≤ 4 := by omega
 have hs0 : (x ++ y).size ≤ 47 := by rw [app_sz]; omega
 clear hc3 hb3 v0 v1 C2 G2 C1 G1
 generalize x ++ y = s0 at *
 go_wp2
 go_loopw [3, 4] (fun v i wr => ∃ (k : Nat) (s : ByteArray), i = .int .i64 (k : Int) ∧ v = .string s ∧ k ≤ 4 ∧ s.size + 150 * k ≤ 700 ∧ Cur wr B ca len cap (n + 88 + 300 * (4 - k)) ∧ Gr B w wr) (fun _ i _ => (intOf i).toNat)
 case atStart => exact ⟨m, s0, rfl, rfl, by omega, by omega, C3.out.mono (by omega), G3.out⟩
 case round =>
  clear C3 G3
  obtain ⟨k, s, rfl, rfl, hk4, hsk, hcr, hgr⟩ := hrel
  have CR : Hid (Cur wr B ca len cap (n + 88 + 300 * (4 - k))) := hcr
  have GR : Hid (Gr B w wr) := hgr
  clear hcr hgr
  by_cases hk0 : 0 < k
  ·have dk : decide ((0 : Int) < (k : Int)) = true := by simp; omega
   obtain ⟨k2, hk2⟩ : ∃ k2, k = k2 + 1 := ⟨k - 1, by omega⟩
   subst hk2
   obtain ⟨N, hN⟩ : ∃ N, n + 88 + 300 * (4 - (k2 + 1)) = N := ⟨_, rfl⟩
   rw [hN] at CR
   have hN2 : N ≤ 600000 := by omega
   have hN3 : N + 300 ≤ n + 88 + 300 * (4 - k2) := by omega
   clear hN
   go_wp2_with fail
   refine (pick_any wr B ca len cap _ 7 hl (by omega) (by omega) (by omega) CR.out (DC.out _ GR.out)).mono ?_
   rintro e w1 ⟨v, rfl, v0, v1, hc1, hb1⟩
   have C1 : Hid (Cur w1 B ca len cap (N + 2)) := hc1
   have G1 : Hid (Gr B w w1) := GR.out.trans (Gr.of_sel hb1)
   clear hc1 hb1 CR GR
   by_cases e0 : v = 0
   ·subst e0
    go_wp2_with fail
    refine (of_lit _ B 1 [⟨#[76]⟩, ⟨#[108]⟩, ⟨#[32]⟩] (by decide) 9 ca len cap _ hl (by omega) (by decide) (by decide) (C1.out) (DC.out _ (G1.out))).mono ?_
    rintro e w4 ⟨x, rfl, hx, hc4, hg4⟩
    have C2 : Hid (Cur w4 B ca len cap (N + 4)) := hc4
    have G2 : Hid (Gr B w w4) := (G1.out).trans hg4
    clear hc4 hg4
    go_wp2_with fail
    refine (numbersText_any _ B ca len cap _ 2 (by omega) hl (by omega) C2.out (DC.out _ G2.out)).mono ?_
    rintro e w5 ⟨⟨y, rfl, hy⟩, hc5, hg5⟩
    have C3 : Hid (Cur w5 B ca len cap (N + 4 + 42 * 2)) := hc5.mono (by omega)
    have G3 : Hid (Gr B w w5) := G2.out.trans hg5
    clear hc5 hg5
    have a1 : x.size + y.size ≤ 9223372036854775807 := by omega
    have a2 : s.size + (x ++ y).size ≤ 9223372036854775807 := by rw [app_sz]; omega
    go_wp2
    go_roundw
    case rel => exact ⟨k2, s ++ (x ++ y), by go_num, rfl, by omega, by rw [app_sz, app_sz]; omega, C3.out.mono (by omega), G3.out⟩
    case measure => simp [intOf]
   have z0 : (v == 0) = false := by rw [beq_eq_false_iff_ne]; exact e0
   by_cases e1 : v = 1
   ·subst e1
    go_wp2_with fail
    refine (of_lit _ B 1 [⟨#[72]⟩, ⟨#[104]⟩, ⟨#[86]⟩, ⟨#[118]⟩] (by decide) 9 ca len cap _ hl (by omega) (by decide) (by decide) (C1.out) (DC.out _ (G1.out))).mono ?_
    rintro e w4 ⟨x, rfl, hx, hc4, hg4⟩
    have C2 : Hid (Cur w4 B ca len cap (N + 4)) := hc4
    have G2 : Hid (Gr B w w4) := (G1.out).trans hg4
    clear hc4 hg4
    go_wp2_with fail
    refine (numbersText_any _ B ca len cap _ 1 (by omega) hl (by omega) C2.out (DC.out _ G2.out)).mono ?_
    rintro e w5 ⟨⟨y, rfl, hy⟩, hc5, hg5⟩
    have C3 : Hid (Cur w5 B ca len cap (N + 4 + 42 * 1)) := hc5.mono (by omega)
    have G3 : Hid (Gr B w w5) := G2.out.trans hg5
    clear hc5 hg5
    have a1 : x.size + y.size ≤ 9223372036854775807 := by omega
    have a2 : s.size + (x ++ y).size ≤ 9223372036854775807 := by rw [app_sz]; omega
    go_wp2
    go_roundw
    case rel => exact ⟨k2, s ++ (x ++ y), by go_num, rfl, by omega, by rw [app_sz, app_sz]; omega, C3.out.mono (by omega), G3.out⟩
    case measure => simp [intOf]
   have z1 : (v == 1) = false := by rw [beq_eq_false_iff_ne]; exact e1
   by_cases e2 : v = 2
   ·subst e2
    go_wp2_with fail
    refine (of_lit _ B 1 [⟨#[67]⟩, ⟨#[99]⟩] (by decide) 9 ca len cap _ hl (by omega) (by decide) (by decide) (C1.out) (DC.out _ (G1.out))).mono ?_
    rintro e w4 ⟨x, rfl, hx, hc4, hg4⟩
    have C2 : Hid (Cur w4 B ca len cap (N + 4)) := hc4
    have G2 : Hid (Gr B w w4) := (G1.out).trans hg4
    clear hc4 hg4
    go_wp2_with fail
    refine (numbersText_any _ B ca len cap _ 6 (by omega) hl (by omega) C2.out (DC.out _ G2.out)).mono ?_
    rintro e w5 ⟨⟨y, rfl, hy⟩, hc5, hg5⟩
    have C3 : Hid (Cur w5 B ca len cap (N + 4 + 42 * 6)) := hc5.mono (by omega)
    have G3 : Hid (Gr B w w5) := G2.out.trans hg5
    clear hc5 hg5
    have a1 : x.size + y.size ≤ 9223372036854775807 := by omega
    have a2 : s.size + (x ++ y).size ≤ 9223372036854775807 := by rw [app_sz]; omega
    go_wp2
    go_roundw
    case rel => exact ⟨k2, s ++ (x ++ y), by go_num, rfl, by omega, by rw [app_sz, app_sz]; omega, C3.out.mono (by omega), G3.out⟩
    case measure => simp [intOf]
   have z2 : (v == 2) = false := by rw [beq_eq_false_iff_ne]; exact e2
   by_cases e3 : v = 3
   ·subst e3
    go_wp2_with fail
    refine (of_lit _ B 1 [⟨#[81]⟩, ⟨#[113]⟩] (by decide) 9 ca len cap _ hl (by omega) (by decide) (by decide) (C1.out) (DC.out _ (G1.out))).mono ?_
    rintro e w4 ⟨x, rfl, hx, hc4, hg4⟩
    have C2 : Hid (Cur w4 B ca len cap (N + 4)) := hc4
    have G2 : Hid (Gr B w w4) := (G1.out).trans hg4
    clear hc4 hg4
    go_wp2_with fail
    refine (numbersText_any _ B ca len cap _ 4 (by omega) hl (by omega) C2.out (DC.out _ G2.out)).mono ?_
    rintro e w5 ⟨⟨y, rfl, hy⟩, hc5, hg5⟩
    have C3 : Hid (Cur w5 B ca len cap (N + 4 + 42 * 4)) := hc5.mono (by omega)
    have G3 : Hid (Gr B w w5) := G2.out.trans hg5
    clear hc5 hg5
    have a1 : x.size + y.size ≤ 9223372036854775807 := by omega
    have a2 : s.size + (x ++ y).size ≤ 9223372036854775807 := by rw [app_sz]; omega
    go_wp2
    go_roundw
    case rel => exact ⟨k2, s ++ (x ++ y), by go_num, rfl, by omega, by rw [app_sz, app_sz]; omega, C3.out.mono (by omega), G3.out⟩
    case measure => simp [intOf]
   have z3 : (v == 3) = false := by rw [beq_eq_false_iff_ne]; exact e3
   by_cases e4 : v = 4
   ·subst e4
    go_wp2_with fail
    refine (of_lit _ B 3 [⟨#[90]⟩, ⟨#[122]⟩, ⟨#[32, 122, 32]⟩] (by decide) 9 ca len cap _ hl (by omega) (by decide) (by decide) (C1.out) (DC.out _ (G1.out))).mono ?_
    rintro e w4 ⟨x, rfl, hx, hc4, hg4⟩
    have C2 : Hid (Cur w4 B ca len cap (N + 4)) := hc4
    have G2 : Hid (Gr B w w4) := (G1.out).trans hg4
    clear hc4 hg4
    have a2 : s.size + x.size ≤ 9223372036854775807 := by omega
    go_wp2
    go_roundw
    case rel => exact ⟨k2, s ++ x, by go_num, rfl, by omega, by rw [app_sz]; omega, C2.out.mono (by omega), G2.out⟩
    case measure => simp [intOf]
   have z4 : (v == 4) = false := by rw [beq_eq_false_iff_ne]; exact e4
   by_cases e5 : v = 5
   ·subst e5
    go_wp2_with fail
    refine (of_lit _ B 1 [⟨#[77]⟩, ⟨#[109]⟩] (by decide) 9 ca len cap _ hl (by omega) (by decide) (by decide) (C1.out) (DC.out _ (G1.out))).mono ?_
    rintro e w4 ⟨x, rfl, hx, hc4, hg4⟩
    have C2 : Hid (Cur w4 B ca len cap (N + 4)) := hc4
    have G2 : Hid (Gr B w w4) := (G1.out).trans hg4
    clear hc4 hg4
    go_wp2_with fail
    refine (numbersText_any _ B ca len cap _ 4 (by omega) hl (by omega) C2.out (DC.out _ G2.out)).mono ?_
    rintro e w5 ⟨⟨y, rfl, hy⟩, hc5, hg5⟩
    have C3 : Hid (Cur w5 B ca len cap (N + 4 + 42 * 4)) := hc5.mono (by omega)
    have G3 : Hid (Gr B w w5) := G2.out.trans hg5
    clear hc5 hg5
    have a1 : x.size + y.size ≤ 9223372036854775807 := by omega
    have a2 : s.size + (x ++ y).size ≤ 9223372036854775807 := by rw [app_sz]; omega
    go_wp2
    go_roundw
    case rel => exact ⟨k2, s ++ (x ++ y), by go_num, rfl, by omega, by rw [app_sz, app_sz]; omega, C3.out.mono (by omega), G3.out⟩
    case measure => simp [intOf]
   have z5 : (v == 5) = false := by rw [beq_eq_false_iff_ne]; exact e5
   clear e0 e1 e2 e3 e4 e5
   go_wp2_with fail
   refine (numbersText_any _ B ca len cap _ 4 (by omega) hl (by omega) C1.out (DC.out _ G1.out)).mono ?_
   rintro e w5 ⟨⟨y, rfl, hy⟩, hc5, hg5⟩
   have C3 : Hid (Cur w5 B ca len cap (N + 2 + 42 * 4)) := hc5.mono (by omega)
   have G3 : Hid (Gr B w w5) := G1.out.trans hg5
   clear hc5 hg5
   have hl3 : (⟨#[32, 76, 32]⟩ : ByteArray).size = 3 := rfl
   have a1 : (⟨#[32, 76, 32]⟩ : ByteArray).size + y.size ≤ 9223372036854775807 := by omega
   have a2 : s.size + ((⟨#[32, 76, 32]⟩ : ByteArray) ++ y).size ≤ 9223372036854775807 := by rw [app_sz]; omega
   generalize (⟨#[32, 76, 32]⟩ : ByteArray) = lt at *
   go_wp2
   go_roundw
   case rel => exact ⟨k2, s ++ (lt ++ y), by go_num, rfl, by omega, by rw [app_sz, app_sz]; omega, C3.out.mono (by omega), G3.out⟩
   case measure => simp [intOf]
  ·have hk1 : k = 0 := by omega
   subst hk1
   go_wp2
   go_ret
   exact ⟨⟨s, rfl, by omega⟩, CR.out.mono (by omega), GR.out⟩
end Go.Proofs.Ytdjemnbdaddegaa
