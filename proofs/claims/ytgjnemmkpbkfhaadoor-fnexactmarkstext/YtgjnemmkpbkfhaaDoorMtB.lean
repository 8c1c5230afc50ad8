/-
  The writer of marks, the program's: an element is begun; each theorem names its conditions.
-/
import Derived.Test.YtgjnemmkpbkfhaaDoorMtC
namespace Go.Proofs.YtgjnemmkpbkfhaaDoor
open Go.ChangeShapes Go.WideShapes Go.ChangeAt Go.RowKit
set_option linter.unusedVariables false

theorem Wr.push {w w' : World} {b : Nat} {nv vo vo' vt : Value} {st st' : List Int} {o : ByteArray} (h : Wr w b nv vo vt st o) (k : Ext vo vo' w w') (hb : Ins w' (b + 1) vo' st') : Wr (w'.setCell ⟨b, 1, none⟩ vo') b nv vo' vt st' o := by
  have hc := fun x => Ext.cell k h.lt h.vo_ne x
  have hf : ∀ x, w'.frozen? ⟨b, x, none⟩ = false := fun x => (World.frozen?_of_block (w := w) (a := ⟨b, x, none⟩) (k.1.block b h.lt (fun e => h.vo_ne e.symm))).trans (h.free x)
  have hne : vo'.ownBlock ≠ some b := Ext.apart k h.lt h.vo_ne
  refine ⟨Nat.lt_of_lt_of_le h.lt (by simpa [World.setCell] using k.size), fun x => by rw [World.frozen?_setCell]; exact hf x, ?_, ?_, ?_, hb.far b 1 _ hne, ?_, fun g e => ?_⟩
  · rw [World.cell?_setCell_other _ _ _ _ (fun e => by injection e; omega)]; exact (hc 0).trans h.c0
  · exact World.cell?_setCell_same w' _ _ ((hc 1).trans h.c1)
  · rw [World.cell?_setCell_other _ _ _ _ (fun e => by injection e; omega)]; exact (hc 2).trans h.c2
  · exact (h.out.ext k (fun g e e2 => h.apart g e2 e)).far b 1 _ h.vt_ne
  · intro e2
    exact Ext.apart k (h.vt_lt g e2) (fun e3 => h.apart g e3 e2) e
theorem Wr.push_below {w w' : World} {b : Nat} {nv vo vo' vt : Value} {st : List Int} {o : ByteArray} (h : Wr w b nv vo vt st o) (k : Ext vo vo' w w') : Below b w (w'.setCell ⟨b, 1, none⟩ vo') :=
  Below.setCell (k.below (fun g e => by have := (World.ownsRow.lt h.op g e).1; omega) (Nat.le_of_lt h.lt)) (Nat.le_refl _) _
theorem Wr.push_cell {w w' : World} {b : Nat} {nv vo vo' vt : Value} {st : List Int} {o : ByteArray} (h : Wr w b nv vo vt st o) (k : Ext vo vo' w w') : w'.cell? ⟨b, 1, none⟩ = some vo ∧ w'.frozen? ⟨b, 1, none⟩ = false :=
  ⟨(Ext.cell k h.lt h.vo_ne 1).trans h.c1, (World.frozen?_of_block (w := w) (a := ⟨b, 1, none⟩) (k.1.block b h.lt (fun e => h.vo_ne e.symm))).trans (h.free 1)⟩
theorem catN_two (x y : ByteArray) : catN [x, y] 2 = x ++ y := by show ByteArray.empty ++ x ++ y = _; rw [ByteArray.empty_append]
/-- Write, where its texts have just been laid. -/
theorem iwrite1 {w : World} {b : Nat} {nv vo vt : Value} {st : List Int} {o : ByteArray} (x : ByteArray) (h : Wr w b nv vo vt st o) (hsz : o.size + x.size ≤ 9000000) (t : TypeId) :
    Calls Tryd.prog 86 #[.pointer (some ⟨b, 0, none⟩), .slice (some ⟨w.heap.size, 0, none⟩) 1 1] (w.alloc (.cells #[.string x] t)) fun e w' => e = .returned (.tuple #[]) ∧ ∃ vt', Wr w' b nv vo vt' st (o ++ x) ∧ Tch b vt vt' w w' := by
  have h1 := iwrite (w.alloc (.cells #[.string x] t)) b nv vo vt st o w.heap.size 1 [x] (h.nw ((Below.refl _ _).alloc (Nat.le_refl _) _)) ⟨by simp, fun i hi => by
    have : i = 0 := by simp at hi; omega
    subst this
    simp [strAt]⟩ (by have := h.lt; omega) (fun e => by have := h.vt_lt _ e; omega) (by simp) (by show o.size + (catN [x] 1).size ≤ _; rw [catN_one]; exact hsz)
  have e1 : ([x] : List ByteArray).length = 1 := rfl
  rw [e1, catN_one] at h1
  exact h1.mono fun e w' hh => ⟨hh.1, by obtain ⟨v9, h8, h9⟩ := hh.2; exact ⟨v9, h8, Nw.tch ((Below.refl _ _).alloc (Nat.le_refl _) _) h9 h.lt⟩⟩
theorem iwrite2 {w : World} {b : Nat} {nv vo vt : Value} {st : List Int} {o : ByteArray} (x y : ByteArray) (h : Wr w b nv vo vt st o) (hsz : o.size + (x ++ y).size ≤ 9000000) (t : TypeId) :
    Calls Tryd.prog 86 #[.pointer (some ⟨b, 0, none⟩), .slice (some ⟨w.heap.size, 0, none⟩) 2 2] (w.alloc (.cells #[.string x, .string y] t)) fun e w' => e = .returned (.tuple #[]) ∧ ∃ vt', Wr w' b nv vo vt' st (o ++ (x ++ y)) ∧ Tch b vt vt' w w' := by
  have h1 := iwrite (w.alloc (.cells #[.string x, .string y] t)) b nv vo vt st o w.heap.size 2 [x, y] (h.nw ((Below.refl _ _).alloc (Nat.le_refl _) _)) ⟨by simp, fun i hi => by
    rcases (show i = 0 ∨ i = 1 by simp at hi; omega) with rfl | rfl
    · simp [strAt]
    · simp [strAt]⟩ (by have := h.lt; omega) (fun e => by have := h.vt_lt _ e; omega) (by simp) (by show o.size + (catN [x, y] 2).size ≤ _; rw [catN_two]; exact hsz)
  have e1 : ([x, y] : List ByteArray).length = 2 := rfl
  rw [e1, catN_two] at h1
  exact h1.mono fun e w' hh => ⟨hh.1, by obtain ⟨v9, h8, h9⟩ := hh.2; exact ⟨v9, h8, Nw.tch ((Below.refl _ _).alloc (Nat.le_refl _) _) h9 h.lt⟩⟩
theorem iwrite3 {w : World} {b : Nat} {nv vo vt : Value} {st : List Int} {o : ByteArray} (x y z : ByteArray) (h : Wr w b nv vo vt st o) (hsz : o.size + (x ++ y ++ z).size ≤ 9000000) (t : TypeId) :
    Calls Tryd.prog 86 #[.pointer (some ⟨b, 0, none⟩), .slice (some ⟨w.heap.size, 0, none⟩) 3 3] (w.alloc (.cells #[.string x, .string y, .string z] t)) fun e w' => e = .returned (.tuple #[]) ∧ ∃ vt', Wr w' b nv vo vt' st (o ++ (x ++ y ++ z)) ∧ Tch b vt vt' w w' := by
  have h1 := iwrite (w.alloc (.cells #[.string x, .string y, .string z] t)) b nv vo vt st o w.heap.size 3 [x, y, z] (h.nw ((Below.refl _ _).alloc (Nat.le_refl _) _)) ⟨by simp, fun i hi => by
    rcases (show i = 0 ∨ i = 1 ∨ i = 2 by simp at hi; omega) with rfl | rfl | rfl
    · simp [strAt]
    · simp [strAt]
    · simp [strAt]⟩ (by have := h.lt; omega) (fun e => by have := h.vt_lt _ e; omega) (by simp) (by show o.size + (catN [x, y, z] 3).size ≤ _; rw [catN_three]; exact hsz)
  have e1 : ([x, y, z] : List ByteArray).length = 3 := rfl
  rw [e1, catN_three] at h1
  exact h1.mono fun e w' hh => ⟨hh.1, by obtain ⟨v9, h8, h9⟩ := hh.2; exact ⟨v9, h8, Nw.tch ((Below.refl _ _).alloc (Nat.le_refl _) _) h9 h.lt⟩⟩
theorem attsN_mono (l : List Pair) (n : Nat) (h : n ≤ l.length) : (attsN l n).size ≤ (attsN l l.length).size := by
  have : ∀ d, (attsN l n).size ≤ (attsN l (n + d)).size := by
    intro d
    induction d with
    | zero => exact Nat.le_refl _
    | succ d ih => rw [← Nat.add_assoc]; show _ ≤ (attsN l (n + d) ++ attT (pairAt l (n + d))).size; rw [ByteArray.size_append]; omega
  have h2 := this (l.length - n)
  rwa [show n + (l.length - n) = l.length by omega] at h2
/-- What an element's beginning leaves open. -/
def begS (l : List ND) (k : Nat) (rs : List Nat) : List Nat := if kidB l k = true then k :: rs else rs
def begO (l : List ND) (k : Nat) (o : ByteArray) : ByteArray := if kidB l k = true then o ++ headT l k ++ gtT else o ++ headT l k ++ shutT
set_option maxHeartbeats 4000000 in
set_option maxRecDepth 100000 in
theorem ibegin (w w0 : World) (b : Nat) (a : Option Addr) (c : Nat) (l : List ND) (vo vt : Value) (rs : List Nat) (o : ByteArray) (k : Nat) (hl : l.length ≤ 60) (hk : k < l.length) (hrl : rs.length ≤ 60) (hz : Small l) (h : Wr w b (.slice a l.length c) vo vt (stI rs) o) (hn0 : Nodes w0 a l) (hw0 : Nw w0 w) (hb0 : w0.heap.size ≤ b) (hsz : o.size + (headT l k).size ≤ 8999990) :
    Calls Tryd.prog 41 #[.pointer (some ⟨b, 0, none⟩), .int .i64 k] w fun e w' => e = .returned (.tuple #[]) ∧ (∃ vo' vt', Wr w' b (.slice a l.length c) vo' vt' (stI (begS l k rs)) (begO l k o)) ∧ Below b w w' := by
  have HZ : Hid (Small l) := hz
  have hkI : (k : Int) < l.length := by omega
  have hA0 : (headT l k).size = 1 + (nmAt l k).size + (attsN (nodeAt l k).attrs (nodeAt l k).attrs.length).size := by
    have e1 : ltT.size = 1 := rfl
    unfold headT; rw [ByteArray.size_append, ByteArray.size_append, e1]
  have HHD : Hid (headT l k = ltT ++ nmAt l k ++ attsN (nodeAt l k).attrs (nodeAt l k).attrs.length) := rfl
  rcases hn0 with hh | ⟨nb, no, rfl, hnb, hnc⟩
  · rw [hh] at hk; simp at hk
  obtain ⟨p0, _, ⟨aa, cc, p2, _, pa⟩, _⟩ := hnc k hk
  have HUP : Hid (∀ i, i < l.length → w0.cell? ⟨nb, no + i * 4 + 1, none⟩ = some (.int .i64 (upAt l i))) := fun i hi => (hnc i hi).2.1
  have HNB : Hid (nb < w0.heap.size) := hnb
  have HPA : Hid (Attrs w0 aa (nodeAt l k).attrs) := pa
  have HP2 : Hid (w0.cell? ⟨nb, no + k * 4 + 2, none⟩ = some (.slice aa (nodeAt l k).attrs.length cc)) := p2
  have HW0 : Hid (∀ W, Below b w W → Nw w0 W) := fun W hW => Below.trans (show Below w0.heap.size w0 w from hw0) (Below.mono hW hb0)
  have q0 : w.cell? ⟨nb, no + k * 4, none⟩ = some (.string (nmAt l k)) := ((bcell hw0).1 _ _ hnb).trans p0
  have c0 := h.c0
  have hsz1 : o.size + (⟨#[60]⟩ ++ nmAt l k).size ≤ 9000000 := by
    have e1 : (⟨#[60]⟩ : ByteArray).size = 1 := rfl
    rw [ByteArray.size_append, e1]; omega
  have HW1 : Hid (Calls Tryd.prog 86 #[.pointer (some ⟨b, 0, none⟩), .slice (some ⟨w.heap.size, 0, none⟩) 2 2] (w.alloc (.cells #[.string ⟨#[60]⟩, .string (nmAt l k)] 9)) fun e w' => e = .returned (.tuple #[]) ∧ ∃ vt', Wr w' b (.slice (some ⟨nb, no, none⟩) l.length c) vo vt' (stI rs) (o ++ (⟨#[60]⟩ ++ nmAt l k)) ∧ Tch b vt vt' w w') := iwrite2 _ _ h hsz1 _
  have HSA : Hid ((attsN (nodeAt l k).attrs (nodeAt l k).attrs.length).size + (o ++ (⟨#[60]⟩ ++ nmAt l k)).size ≤ 8999991) := by
    show _ ≤ _
    have e1 : (⟨#[60]⟩ : ByteArray).size = 1 := rfl
    rw [ByteArray.size_append, ByteArray.size_append, e1]; omega
  have HO1 : Hid (o ++ (⟨#[60]⟩ ++ nmAt l k) ++ attsN (nodeAt l k).attrs (nodeAt l k).attrs.length = o ++ headT l k) := by
    show _ = _
    rw [HHD.out]
    simp only [ByteArray.append_assoc]
    rfl
  clear h hz hnc hsz1 p0 p2 pa hw0 hsz hA0
  go_enter Tryd.func41, Tryd.ntmps41
  go_wp2_with fail
  refine Calls.mono HW1.out ?_
  rintro e w1 ⟨rfl, v1, hw1, t1⟩
  have k1 := t1.below
  clear t1
  have W1 : Hid (Wr w1 b (.slice (some ⟨nb, no, none⟩) l.length c) vo v1 (stI rs) (o ++ (⟨#[60]⟩ ++ nmAt l k))) := hw1
  have B1 : Hid (Below b w w1) := k1
  replace c0 := hw1.c0
  have q2 := ((bcell (HW0.out w1 k1)).1 _ _ HNB.out).trans HP2.out
  have hzl : (nodeAt l k).attrs.length ≤ 1048576 := (HZ.out k hk).len
  have HZA : Hid (∀ i, i < (nodeAt l k).attrs.length → (pairAt (nodeAt l k).attrs i).2.size ≤ 1048576) := fun i hi => ((HZ.out k hk).attrs i hi).2
  clear hw1 k1 q0 HP2 HW1 HHD
  generalize o ++ (⟨#[60]⟩ ++ nmAt l k) = O1 at *
  generalize (nodeAt l k).attrs = at' at *
  go_wp2
  go_loopw [26] (fun i wr => ∃ (n : Nat) (vt' : Value), n ≤ at'.length ∧ i = .int .i64 n ∧ Wr wr b (.slice (some ⟨nb, no, none⟩) l.length c) vo vt' (stI rs) (O1 ++ attsN at' n) ∧ Below b w wr) (fun i _ => at'.length - (intOf i).toNat)
  case atStart => exact ⟨0, v1, Nat.zero_le _, rfl, by show Wr w1 b _ vo v1 (stI rs) (O1 ++ ByteArray.empty); rw [ByteArray.append_empty]; exact W1.out, B1.out⟩
  case round =>
    obtain ⟨n, v2, hn, rfl, hw2, hb2⟩ := hrel
    have W2 : Hid (Wr wr b (.slice (some ⟨nb, no, none⟩) l.length c) vo v2 (stI rs) (O1 ++ attsN at' n)) := hw2
    have B2 : Hid (Below b w wr) := hb2
    clear W1 B1 c0 q2
    by_cases hlt : n < at'.length
    · have hltI : (n : Int) < at'.length := by omega
      rcases HPA.out.nw (HW0.out wr hb2) with hh | ⟨ab, ao, rfl, hab, hac⟩
      · rw [hh] at hlt; simp at hlt
      obtain ⟨r0, r1⟩ := hac n hlt
      have hz2 := HZA.out n hlt
      have hm2 := attsN_mono at' (n + 1) (by omega)
      have HAS : Hid (attsN at' (n + 1) = attsN at' n ++ attT (pairAt at' n)) := rfl
      have HATT : Hid (attT (pairAt at' n) = blT ++ (pairAt at' n).1 ++ eqT ++ told (pairAt at' n).2 ++ quT) := rfl
      have hsA : (O1 ++ attsN at' n).size + (blT ++ (pairAt at' n).1 ++ eqT).size + (told (pairAt at' n).2).size + 1 ≤ 8999991 := by
        have h1 := HSA.out
        rw [HAS.out, ByteArray.size_append, HATT.out, ByteArray.size_append, ByteArray.size_append] at hm2
        have e1 : quT.size = 1 := rfl
        rw [e1] at hm2
        rw [ByteArray.size_append]
        omega
      have HT3 : Hid (O1 ++ attsN at' n ++ (⟨#[32]⟩ ++ (pairAt at' n).1 ++ ⟨#[61, 34]⟩) ++ told (pairAt at' n).2 ++ ⟨#[34]⟩ = O1 ++ attsN at' (n + 1)) := by
        show _ = _
        rw [HAS.out, HATT.out]
        simp only [ByteArray.append_assoc]
        rfl
      have e9 : (blT ++ (pairAt at' n).1 ++ eqT) = ((⟨#[32]⟩ : ByteArray) ++ (pairAt at' n).1 ++ ⟨#[61, 34]⟩) := rfl
      rw [e9] at hsA
      clear hw2 hb2 hac hm2 HAS HATT e9
      generalize (pairAt at' n).1 = px at *
      generalize (pairAt at' n).2 = py at *
      generalize O1 ++ attsN at' n = O2 at *
      obtain ⟨W3, hW3⟩ : ∃ W3, W3 = wr.alloc (.cells #[.string px, .string py] 119) := ⟨_, rfl⟩
      have K3 : Hid (Nw wr W3) := by show Nw wr W3; rw [hW3]; exact (Below.refl _ _).alloc (Nat.le_refl _) _
      have HWr3 : Hid (Wr W3 b (.slice (some ⟨nb, no, none⟩) l.length c) vo v2 (stI rs) O2) := W2.out.nw K3.out
      have HX3 : Hid (W3.cell? ⟨wr.heap.size, 1, none⟩ = some (.string py) ∧ wr.heap.size < W3.heap.size) := by show _ ∧ _; rw [hW3]; exact ⟨by simp, by simp⟩
      have HC3 : Hid (Calls Tryd.prog 86 #[.pointer (some ⟨b, 0, none⟩), .slice (some ⟨W3.heap.size, 0, none⟩) 3 3] (W3.alloc (.cells #[.string ⟨#[32]⟩, .string px, .string ⟨#[61, 34]⟩] 9)) fun e w' => e = .returned (.tuple #[]) ∧ ∃ vt', Wr w' b (.slice (some ⟨nb, no, none⟩) l.length c) vo vt' (stI rs) (O2 ++ (⟨#[32]⟩ ++ px ++ ⟨#[61, 34]⟩)) ∧ Tch b v2 vt' W3 w') := iwrite3 _ _ _ HWr3.out (by omega) _
      have eW3 : W3.heap.size = wr.heap.size + 1 := by rw [hW3]; simp
      rw [eW3] at HC3
      rw [hW3] at HC3
      go_wp2_with fail
      refine Calls.mono HC3.out ?_
      rw [← hW3]
      rintro e w4 ⟨rfl, v4, hw4, k4⟩
      have W4 : Hid (Wr w4 b (.slice (some ⟨nb, no, none⟩) l.length c) vo v4 (stI rs) (O2 ++ (⟨#[32]⟩ ++ px ++ ⟨#[61, 34]⟩))) := hw4
      have B4 : Hid (Below b w w4) := Below.trans (Below.trans B2.out (Below.mono K3.out (Nat.le_of_lt W2.out.lt))) k4.below
      have x4 : w4.cell? ⟨wr.heap.size, 1, none⟩ = some (.string py) := (k4.cell HX3.out.2 (by have := W2.out.lt; omega) (fun e => by have := W2.out.vt_lt _ e; omega) 1).trans HX3.out.1
      clear hw4 k4 HC3 hW3 eW3 K3 HWr3 HX3 r0 r1
      go_wp2_with fail
      refine Calls.mono (iescaped _ b _ vo v4 (stI rs) _ py W4.out hz2 (by rw [ByteArray.size_append]; omega)) ?_
      rintro e w5 ⟨rfl, v5, hw5, k5⟩
      have W5 : Hid (Wr w5 b (.slice (some ⟨nb, no, none⟩) l.length c) vo v5 (stI rs) (O2 ++ (⟨#[32]⟩ ++ px ++ ⟨#[61, 34]⟩) ++ told py)) := hw5
      have B5 : Hid (Below b w w5) := Below.trans B4.out k5.below
      have HC5 : Hid (Calls Tryd.prog 86 #[.pointer (some ⟨b, 0, none⟩), .slice (some ⟨w5.heap.size, 0, none⟩) 1 1] (w5.alloc (.cells #[.string ⟨#[34]⟩] 9)) fun e w' => e = .returned (.tuple #[]) ∧ ∃ vt', Wr w' b (.slice (some ⟨nb, no, none⟩) l.length c) vo vt' (stI rs) (O2 ++ (⟨#[32]⟩ ++ px ++ ⟨#[61, 34]⟩) ++ told py ++ ⟨#[34]⟩) ∧ Tch b v5 vt' w5 w') := iwrite1 _ W5.out (by have e1 : (⟨#[34]⟩ : ByteArray).size = 1 := rfl; rw [e1, ByteArray.size_append, ByteArray.size_append]; omega) _
      clear hw5 k5 x4 W4 B4
      rw [HT3.out] at HC5
      go_wp2_with (go_at_call 86; refine Calls.mono HC5.out ?_; rintro e w6 ⟨rfl, v6, hw6, k6⟩)
      go_roundw
      case rel => exact ⟨n + 1, v6, by omega, by go_num, hw6, Below.trans B5.out k6.below⟩
      case measure => simp [intOf]; omega
    · have e : n = at'.length := by omega
      subst e
      have hltI : ¬ (at'.length : Int) < at'.length := by omega
      rw [HO1.out] at W2
      have c0 := W2.out.c0
      have hsO : (o ++ headT l k).size ≤ 8999991 := by
        have h1 := HSA.out
        rw [← HO1.out, ByteArray.size_append]
        omega
      clear hw2 hb2
      have noKid : kidB l k = false → begS l k rs = rs ∧ begO l k o = o ++ headT l k ++ shutT := fun e => by unfold begS begO; rw [e]; exact ⟨rfl, rfl⟩
      have HC2 : Hid (Calls Tryd.prog 86 #[.pointer (some ⟨b, 0, none⟩), .slice (some ⟨wr.heap.size, 0, none⟩) 1 1] (wr.alloc (.cells #[.string ⟨#[47, 62]⟩] 9)) fun e w' => e = .returned (.tuple #[]) ∧ ∃ vt', Wr w' b (.slice (some ⟨nb, no, none⟩) l.length c) vo vt' (stI rs) (o ++ headT l k ++ ⟨#[47, 62]⟩) ∧ Tch b v2 vt' wr w') := iwrite1 _ W2.out (by have e1 : (⟨#[47, 62]⟩ : ByteArray).size = 2 := rfl; rw [e1]; omega) _
      by_cases hlast : k + 1 = l.length
      · have HX : Hid (begS l k rs = rs ∧ begO l k o = o ++ headT l k ++ shutT) := noKid (by unfold kidB; exact decide_eq_false (by omega))
        have hq1 : ((k : Int) + 1 == (l.length : Int)) = true := by rw [beq_iff_eq]; omega
        clear noKid hlast
        go_wp2_with (go_at_call 86; refine Calls.mono HC2.out ?_; rintro e w6 ⟨rfl, v6, hw6, k6⟩)
        (try simp only [Exit.inBlock, Exit.then]); refine bodyPost_ret (results_none rfl _ _ _) rfl ?_
        exact ⟨rfl, ⟨vo, v6, by rw [HX.out.1, HX.out.2]; exact hw6⟩, Below.trans B2.out k6.below⟩
      · have hq1 : ((k : Int) + 1 == (l.length : Int)) = false := beq_eq_false_iff_ne.2 (by omega)
        have hk1 : k + 1 < l.length := by omega
        have qu := ((bcell (HW0.out wr B2.out)).1 _ _ HNB.out).trans (HUP.out (k + 1) hk1)
        have hk1I : (k : Int) + 1 < l.length := by omega
        by_cases hup : upAt l (k + 1) = (k : Int)
        · have HX : Hid (begS l k rs = k :: rs ∧ begO l k o = o ++ headT l k ++ gtT) := by
            show _ ∧ _
            have e : kidB l k = true := by unfold kidB; exact decide_eq_true ⟨hk1, hup⟩
            unfold begS begO
            rw [e]
            exact ⟨rfl, rfl⟩
          rw [hup] at qu
          have HC3 : Hid (Calls Tryd.prog 86 #[.pointer (some ⟨b, 0, none⟩), .slice (some ⟨wr.heap.size, 0, none⟩) 1 1] (wr.alloc (.cells #[.string ⟨#[62]⟩] 9)) fun e w' => e = .returned (.tuple #[]) ∧ ∃ vt', Wr w' b (.slice (some ⟨nb, no, none⟩) l.length c) vo vt' (stI rs) (o ++ headT l k ++ ⟨#[62]⟩) ∧ Tch b v2 vt' wr w') := iwrite1 _ W2.out (by have e1 : (⟨#[62]⟩ : ByteArray).size = 1 := rfl; rw [e1]; omega) _
          clear noKid hlast hup HC2 hk1
          go_wp2_with fail
          refine Calls.mono HC3.out ?_
          rintro e w6 ⟨rfl, v6, hw6, k6⟩
          have W6 : Hid (Wr w6 b (.slice (some ⟨nb, no, none⟩) l.length c) vo v6 (stI rs) (o ++ headT l k ++ ⟨#[62]⟩)) := hw6
          have B6 : Hid (Below b w w6) := Below.trans B2.out k6.below
          replace c0 := hw6.c1
          obtain ⟨xa, xc, rfl⟩ : ∃ xa xc, vo = .slice xa (stI rs).length xc := by
            rcases hw6.op.lay with ⟨h1, h2⟩ | ⟨g9, c9, h1, _⟩
            · exact ⟨none, 0, by rw [h1, h2]; rfl⟩
            · exact ⟨_, c9, h1⟩
          have hbz : b + 1 ≤ w6.heap.size := hw6.lt
          have HB0 : ∀ o, Hid (Nw w6 (w6.alloc o)) := fun o => (Below.refl _ _).alloc (Nat.le_refl _) o
          have HI : Hid (Ins w6 (b + 1) (.slice xa (stI rs).length xc) (stI rs)) := hw6.op
          have hol : (stI rs).length ≤ 10000000 := by rw [stI_len]; omega
          clear hw6 k6 HC3 qu
          go_wp2_with (at_builtin; (refine wp_in _ rfl _ _ rfl (b + 1) _ (stI rs) (k : Int) rfl (HI.out.nw (HB0 _).out) _ rfl ?c1 hol ?c3 ?_))
          case c1 => simp
          case c3 => exact Nat.le_trans hbz (Below.size (HB0 _).out)
          intro v' w' h1 h2
          have HP : Hid (Wr (w'.setCell ⟨b, 1, none⟩ v') b (.slice (some ⟨nb, no, none⟩) l.length c) v' v6 (stI (k :: rs)) (o ++ headT l k ++ ⟨#[62]⟩)) := by
            show Wr _ _ _ _ _ _ _
            rw [stI_cons]
            exact (W6.out.nw (HB0 _).out).push h2 h1
          have HQ : Hid (Below b w (w'.setCell ⟨b, 1, none⟩ v')) := Below.trans B6.out (Below.trans (Below.mono (HB0 _).out (by omega)) ((W6.out.nw (HB0 _).out).push_below h2))
          obtain ⟨d1, f1⟩ := Wr.push_cell (W6.out.nw (HB0 _).out) h2
          obtain ⟨ya, yn, yc, rfl⟩ : ∃ ya yn yc, v' = .slice ya yn yc := by
            rcases h1.2 with ⟨e, _⟩ | ⟨g1, c1, cu, e, _⟩
            · exact ⟨none, 0, 0, e⟩
            · exact ⟨_, _, c1, e⟩
          clear h1 h2 HB0 HI
          go_wp2
          go_end0
          exact ⟨rfl, ⟨_, v6, by rw [HX.out.1, HX.out.2]; exact HP.out⟩, HQ.out⟩
        · have HX : Hid (begS l k rs = rs ∧ begO l k o = o ++ headT l k ++ shutT) := noKid (by unfold kidB; exact decide_eq_false (fun h => hup h.2))
          have hq2 : ((upAt l (k + 1)) == (k : Int)) = false := beq_eq_false_iff_ne.2 hup
          clear noKid hlast hup hk1
          generalize upAt l (k + 1) = U at *
          go_wp2_with (go_at_call 86; refine Calls.mono HC2.out ?_; rintro e w6 ⟨rfl, v6, hw6, k6⟩)
          all_goals
            (try simp only [Exit.inBlock, Exit.then]); refine bodyPost_ret (results_none rfl _ _ _) rfl ?_
            exact ⟨rfl, ⟨vo, v6, by rw [HX.out.1, HX.out.2]; exact hw6⟩, Below.trans B2.out k6.below⟩
end Go.Proofs.YtgjnemmkpbkfhaaDoor
