/-
  ReadNumbers of both; for texts of at most 1048576 bytes; each theorem names its conditions.
  The walk of the law FnTransforms; each theorem names its conditions.
-/
import Derived.Test.YtpfhnedklihdoaaGreatDoorJAX
import Derived.Test.YtpfhnedklihdoaaGreatDoorJAW
import Derived.Lib.SmallJoins
import Derived.Test.YtpfhnedklihdoaaGreatDoorJAY
import Derived.Test.YtpfhnedklihdoaaGreatDoorJAU
namespace Go.Proofs.YtpfhnedklihdoaaGreatDoor
open Go.ChangeShapes Go.WideShapes Go.ChangeAt Go.RowKit
set_option linter.unusedVariables false

/-- What ReadNumbers answers. -/
def nV (s : ByteArray) : List Int × Bool := if 600 < s.size then ([], false) else numL (TB s).data.toList
/-- An answer of ReadNumbers: a list of the call's own. -/
def NumSays (f : FuncId) (s : ByteArray) : Prop := ∀ w, Calls Tryz.prog f #[.string s] w fun e w' => ∃ v, e = .returned (.tuple #[v, .bool (nV s).2]) ∧ Ins w' w.heap.size v (nV s).1 ∧ Below w.heap.size w w'
theorem numL_len (l : List UInt8) : (numL l).1.length ≤ 60 := by
  unfold numL
  match nums l with
  | none => simp
  | some xs =>
    show (if xs.length ≤ 60 then (xs, true) else ([], false)).1.length ≤ 60
    split
    · assumption
    · simp
theorem nV_len (s : ByteArray) : (nV s).1.length ≤ 60 := by
  unfold nV
  split
  · simp
  · exact numL_len _
theorem sreadN (s : ByteArray) (hs : s.size ≤ 1048576) : NumSays 10 s := by
  intro w
  by_cases h : 600 < s.size
  · have HE : Hid (nV s = ([], false)) := by show _ = _; unfold nV; rw [if_pos h]
    go_enter Tryz.func10, Tryz.ntmps10
    go_wp2
    go_ret2
    refine ⟨.slice none 0 0, ?_, ?_, Below.refl _ _⟩
    · rw [HE.out]; rfl
    · rw [HE.out]; exact Ins.nil _ _
  · have HE : Hid (nV s = numL (TB s).data.toList) := by show _ = _; unfold nV; rw [if_neg h]
    have HT : Hid _ := fun w => snums s w (by omega)
    rw [← HE.out] at HT
    have hd : decide (600 < (s.size : Int)) = false := by simp; omega
    clear HE
    generalize nV s = r at *
    obtain ⟨l, ok⟩ := r
    go_enter Tryz.func10, Tryz.ntmps10
    go_wp2_with fail
    refine (HT.out _).mono ?_; rintro e w1 ⟨v, rfl, h1, h2⟩
    have H1 : Hid _ := h1
    have H2 : Hid _ := h2
    clear h1 h2
    go_wp2
    go_ret2
    exact ⟨v, rfl, H1.out, H2.out⟩
set_option maxHeartbeats 1000000 in
theorem ireadN (s : ByteArray) (hs : s.size ≤ 1048576) : NumSays 9 s := by
  intro w
  have HV : Hid _ := fun w => ivalue s w hs
  by_cases h : 600 < s.size
  · have HE : Hid (nV s = ([], false)) := by show _ = _; unfold nV; rw [if_pos h]
    rw [if_pos h, decide_eq_true h] at HV
    go_enter Tryz.func9, Tryz.ntmps9
    go_wp2_with fail
    refine (HV.out _).mono ?_; rintro e w1 ⟨rfl, h2⟩
    have H2 : Hid _ := h2
    clear h2
    go_wp2
    go_ret2
    refine ⟨.slice none 0 0, ?_, ?_, H2.out⟩
    · rw [HE.out]; rfl
    · rw [HE.out]; exact Ins.nil _ _
  · rw [if_neg h, decide_eq_false h] at HV
    have HE : Hid (nV s = if (numV (TB s).data.toList).2 = true ∧ (numV (TB s).data.toList).1.length ≤ 60 then ((numV (TB s).data.toList).1, true) else ([], false)) := by
      show _ = _; unfold nV; rw [if_neg h, numL_numV]
    have hle := TB_le s
    have HT : Hid _ := fun w => irow (TB s) w (by omega)
    generalize numV (TB s).data.toList = r at *
    generalize TB s = t at *
    obtain ⟨l, ok⟩ := r
    cases ok with
    | false =>
      have HE2 : Hid (nV s = ([], false)) := HE.out.trans (if_neg (fun h => by cases h.1))
      clear HE
      go_enter Tryz.func9, Tryz.ntmps9
      go_wp2_with fail
      refine (HV.out _).mono ?_; rintro e w1 ⟨rfl, h2⟩
      have H2 : Hid _ := h2
      clear h2
      go_wp2_with fail
      refine (HT.out _).mono ?_; rintro e w2 ⟨v, rfl, h3, h4⟩
      have H4 : Hid _ := h4
      clear h3 h4
      go_wp2
      go_ret2
      refine ⟨.slice none 0 0, ?_, ?_, Below.trans H2.out (Below.mono H4.out (Below.size H2.out))⟩
      · rw [HE2.out]; rfl
      · rw [HE2.out]; exact Ins.nil _ _
    | true =>
      by_cases h60 : l.length ≤ 60
      · have HE2 : Hid (nV s = (l, true)) := HE.out.trans (if_pos ⟨rfl, h60⟩)
        have hd : decide (60 < (l.length : Int)) = false := by simp; omega
        clear HE
        go_enter Tryz.func9, Tryz.ntmps9
        go_wp2_with fail
        refine (HV.out _).mono ?_; rintro e w1 ⟨rfl, h2⟩
        have H2 : Hid _ := h2
        clear h2
        go_wp2_with fail
        refine (HT.out _).mono ?_; rintro e w2 ⟨v, rfl, h3, h4⟩
        have H4 : Hid _ := h4
        have H3 : Hid (Ins w2 w1.heap.size v l) := h3
        have form : ∃ a c, v = .slice a l.length c := by
          rcases Ins.lay H3.out with ⟨rfl, rfl⟩ | ⟨g, c, rfl, _⟩
          · exact ⟨none, 0, rfl⟩
          · exact ⟨_, c, rfl⟩
        obtain ⟨va, vc, rfl⟩ := form
        clear h3 h4
        go_wp2
        go_ret2
        refine ⟨.slice va l.length vc, ?_, ?_, Below.trans H2.out (Below.mono H4.out (Below.size H2.out))⟩
        · rw [HE2.out]; rfl
        · rw [HE2.out]; exact Joins.ownsRow_le H3.out (Below.size H2.out)
      · have HE2 : Hid (nV s = ([], false)) := HE.out.trans (if_neg (fun h => h60 h.2))
        have hd : (60 : Int) < (l.length : Int) := by omega
        clear HE
        go_enter Tryz.func9, Tryz.ntmps9
        go_wp2_with fail
        refine (HV.out _).mono ?_; rintro e w1 ⟨rfl, h2⟩
        have H2 : Hid _ := h2
        clear h2
        go_wp2_with fail
        refine (HT.out _).mono ?_; rintro e w2 ⟨v, rfl, h3, h4⟩
        have H4 : Hid _ := h4
        have H3 : Hid (Ins w2 w1.heap.size v l) := h3
        have form : ∃ a c, v = .slice a l.length c := by
          rcases Ins.lay H3.out with ⟨rfl, rfl⟩ | ⟨g, c, rfl, _⟩
          · exact ⟨none, 0, rfl⟩
          · exact ⟨_, c, rfl⟩
        obtain ⟨va, vc, rfl⟩ := form
        clear h3 h4
        go_wp2
        go_ret2
        refine ⟨.slice none 0 0, ?_, ?_, Below.trans H2.out (Below.mono H4.out (Below.size H2.out))⟩
        · rw [HE2.out]; rfl
        · rw [HE2.out]; exact Ins.nil _ _
end Go.Proofs.YtpfhnedklihdoaaGreatDoor
namespace Go.Proofs.YtpfhnedklihdoaaGreatDoor
open Go.ChangeShapes Go.WideShapes Go.ChangeAt Go.RowKit
set_option linter.unusedVariables false

/-- Six told numbers in a block. -/
structure S6 (w : World) (b : Nat) (x0 x1 x2 x3 x4 x5 : Int) : Prop where
  c0 : w.cell? ⟨b, 0, none⟩ = some (.int .i64 x0)
  c1 : w.cell? ⟨b, 1, none⟩ = some (.int .i64 x1)
  c2 : w.cell? ⟨b, 2, none⟩ = some (.int .i64 x2)
  c3 : w.cell? ⟨b, 3, none⟩ = some (.int .i64 x3)
  c4 : w.cell? ⟨b, 4, none⟩ = some (.int .i64 x4)
  c5 : w.cell? ⟨b, 5, none⟩ = some (.int .i64 x5)
theorem S6.lt {w : World} {b : Nat} {x0 x1 x2 x3 x4 x5 : Int} (h : S6 w b x0 x1 x2 x3 x4 x5) : b < w.heap.size := World.block_lt_of_cell? w ⟨b, 0, none⟩ h.c0
theorem S6.nw {w w' : World} {b : Nat} {x0 x1 x2 x3 x4 x5 : Int} (h : S6 w b x0 x1 x2 x3 x4 x5) (k : Nw w w') : S6 w' b x0 x1 x2 x3 x4 x5 := by
  have e := fun o => (bcell k).1 b o h.lt
  exact ⟨(e _).trans h.c0, (e _).trans h.c1, (e _).trans h.c2, (e _).trans h.c3, (e _).trans h.c4, (e _).trans h.c5⟩
theorem S6.new (w : World) (x0 x1 x2 x3 x4 x5 : Int) (t : TypeId) : S6 (w.alloc (.cells #[.int .i64 x0, .int .i64 x1, .int .i64 x2, .int .i64 x3, .int .i64 x4, .int .i64 x5] t)) w.heap.size x0 x1 x2 x3 x4 x5 :=
  ⟨by simp, by simp, by simp, by simp, by simp, by simp⟩
theorem nw_al (w : World) (o : Obj) : Nw w (w.alloc o) := (Below.refl _ _).alloc (Nat.le_refl _) _
set_option maxRecDepth 100000 in
set_option maxHeartbeats 16000000 in
theorem walk_trans (w : World) {p : Prop} (hm : p) (a0 : Option Addr) (len0 cap0 : Nat) (a1 : Option Addr) (len1 cap1 : Nat) (ml0 : len0 ≤ 9223372036854775807) (hd0 : Code w w.heap.size a0 len0) (ml1 : len1 ≤ 9223372036854775807) (hd1 : Code w w.heap.size a1 len1) :
    Calls Tryz.prog 3 #[.slice a0 len0 cap0, .slice a1 len1 cap1] w fun e w' => e = .returned (.bool true) ∧ Below w.heap.size w w' := by
  have HC0 : Hid _ := hd0
  have HC1 : Hid _ := hd1
  clear hd0 hd1 hm
  by_cases hbig : 1048576 < wrap64 ((len0 : Int) + (len1 : Int))
  · go_enter Tryz.func3, Tryz.ntmps3
    go_wp2
    go_ret
    exact ⟨rfl, Below.refl _ _⟩
  · go_enter Tryz.func3, Tryz.ntmps3
    go_wp2_with fail
    refine (drawMul_any one_some w a0 len0 cap0 ml0 HC0.out).mono ?_
    rintro e w1 ⟨⟨a, b, c, d, x, y, a', b', c', d', x', y', rfl⟩, n1⟩
    obtain ⟨r1, hS1, hI1⟩ := mul_both a b c d x y a' b' c' d' x' y'
    obtain ⟨r2, hI2, hg2⟩ := mul_idR a b c d x y
    obtain ⟨r3, hI3, hg3⟩ := mul_idL a b c d x y
    obtain ⟨x0, x1, x2, x3, x4, x5, ok⟩ := r1
    obtain ⟨y0, y1, y2, y3, y4, y5, ok2⟩ := r2
    obtain ⟨z0, z1, z2, z3, z4, z5, ok3⟩ := r3
    unfold MR.v affV at hS1 hI1 hI2 hI3
    simp only at hS1 hI1 hI2 hI3
    have HS1 : Hid _ := hS1
    have HI1 : Hid _ := hI1
    have HI2 : Hid _ := hI2
    have HI3 : Hid _ := hI3
    have HG2 : Hid _ := hg2
    have HG3 : Hid _ := hg3
    have HGA : Hid _ := fun w => sgoodAff w a b c d x y
    unfold affV at HGA
    obtain ⟨W1, hW1⟩ : ∃ W1, (w1.alloc (.cells #[.int .i64 a, .int .i64 b, .int .i64 c, .int .i64 d, .int .i64 x, .int .i64 y] 24)).alloc (.cells #[.int .i64 a', .int .i64 b', .int .i64 c', .int .i64 d', .int .i64 x', .int .i64 y'] 24) = W1 := ⟨_, rfl⟩
    have N1 : Hid (Nw w W1) := by show Nw _ _; rw [← hW1]; exact Nw.trans n1 (Nw.trans (nw_al _ _) (nw_al _ _))
    have A1 : Hid (S6 W1 w1.heap.size a b c d x y) := by show S6 _ _ _ _ _ _ _ _; rw [← hW1]; exact (S6.new w1 a b c d x y _).nw (nw_al _ _)
    have B1 : Hid (S6 W1 (w1.heap.size + 1) a' b' c' d' x' y') := by
      show S6 _ _ _ _ _ _ _ _
      have h := S6.new (w1.alloc (.cells #[.int .i64 a, .int .i64 b, .int .i64 c, .int .i64 d, .int .i64 x, .int .i64 y] 24)) a' b' c' d' x' y' 24
      rw [World.size_alloc, hW1] at h
      exact h
    have HW1 : Hid (_ = W1) := hW1
    clear hS1 hI1 hI2 hI3 hg2 hg3 n1 hW1
    go_upto_region 4 with fail
    rw [HW1.out]
    have AW1 : Hid (S6 W1 w1.heap.size a b c d x y) := A1
    have BW1 : Hid (S6 W1 (w1.heap.size + 1) a' b' c' d' x' y') := B1
    have NW1 : Hid (Nw w W1) := N1
    obtain ⟨q0, q1, q2, q3, q4, q5⟩ := AW1.out
    obtain ⟨p0, p1, p2, p3, p4, p5⟩ := BW1.out
    go_wp2_with fail
    clear q0 q1 q2 q3 q4 q5 p0 p1 p2 p3 p4 p5
    refine (HI1.out W1).mono ?_
    rintro e w2 ⟨rfl, k⟩
    have Nw2 : Hid (Nw w w2) := Nw.trans NW1.out k.1
    have Aw2 : Hid (S6 w2 w1.heap.size a b c d x y) := AW1.out.nw k.1
    have Bw2 : Hid (S6 w2 (w1.heap.size + 1) a' b' c' d' x' y') := BW1.out.nw k.1
    clear k
    obtain ⟨W2, hW⟩ : ∃ W, w2.alloc (.cells #[.int .i64 x0, .int .i64 x1, .int .i64 x2, .int .i64 x3, .int .i64 x4, .int .i64 x5] 24) = W := ⟨_, rfl⟩
    have HBW2 : Hid (_ = W2) := hW
    have NW2 : Hid (Nw w W2) := by show Nw _ _; rw [← hW]; exact Nw.trans Nw2.out (nw_al _ _)
    have AW2 : Hid (S6 W2 w1.heap.size a b c d x y) := by show S6 _ _ _ _ _ _ _ _; rw [← hW]; exact Aw2.out.nw (nw_al _ _)
    have BW2 : Hid (S6 W2 (w1.heap.size + 1) a' b' c' d' x' y') := by show S6 _ _ _ _ _ _ _ _; rw [← hW]; exact Bw2.out.nw (nw_al _ _)
    have XW2 : Hid (S6 W2 w2.heap.size x0 x1 x2 x3 x4 x5) := by show S6 _ _ _ _ _ _ _ _; rw [← hW]; exact S6.new _ _ _ _ _ _ _ _
    clear hW
    go_upto_region 5 with fail
    rw [HBW2.out]
    obtain ⟨q0, q1, q2, q3, q4, q5⟩ := AW2.out
    obtain ⟨p0, p1, p2, p3, p4, p5⟩ := BW2.out
    go_wp2_with fail
    clear q0 q1 q2 q3 q4 q5 p0 p1 p2 p3 p4 p5
    refine (HS1.out W2).mono ?_
    rintro e w3 ⟨rfl, k⟩
    have Nw3 : Hid (Nw w w3) := Nw.trans NW2.out k.1
    have Aw3 : Hid (S6 w3 w1.heap.size a b c d x y) := AW2.out.nw k.1
    have Xw3 : Hid (S6 w3 w2.heap.size x0 x1 x2 x3 x4 x5) := XW2.out.nw k.1
    clear k
    obtain ⟨W3, hW⟩ : ∃ W, w3.alloc (.cells #[.int .i64 x0, .int .i64 x1, .int .i64 x2, .int .i64 x3, .int .i64 x4, .int .i64 x5] 24) = W := ⟨_, rfl⟩
    have HBW3 : Hid (_ = W3) := hW
    have NW3 : Hid (Nw w W3) := by show Nw _ _; rw [← hW]; exact Nw.trans Nw3.out (nw_al _ _)
    have AW3 : Hid (S6 W3 w1.heap.size a b c d x y) := by show S6 _ _ _ _ _ _ _ _; rw [← hW]; exact Aw3.out.nw (nw_al _ _)
    have XW3 : Hid (S6 W3 w2.heap.size x0 x1 x2 x3 x4 x5) := by show S6 _ _ _ _ _ _ _ _; rw [← hW]; exact Xw3.out.nw (nw_al _ _)
    have VW3 : Hid (S6 W3 w3.heap.size x0 x1 x2 x3 x4 x5) := by show S6 _ _ _ _ _ _ _ _; rw [← hW]; exact S6.new _ _ _ _ _ _ _ _
    clear hW
    go_upto_region 6 with fail
    rw [HBW3.out]
    obtain ⟨q0, q1, q2, q3, q4, q5⟩ := XW3.out
    obtain ⟨p0, p1, p2, p3, p4, p5⟩ := VW3.out
    have hok : (ok != ok) = false := by cases ok <;> rfl
    go_upto_region 8 with fail
    clear q0 q1 q2 q3 q4 q5 p0 p1 p2 p3 p4 p5
    obtain ⟨W4, hW⟩ : ∃ W, W3.alloc (.cells #[.int .i64 65536, .int .i64 0, .int .i64 0, .int .i64 65536, .int .i64 0, .int .i64 0] 24) = W := ⟨_, rfl⟩
    have HBW4 : Hid (_ = W4) := hW
    have NW4 : Hid (Nw w W4) := by show Nw _ _; rw [← hW]; exact Nw.trans NW3.out (nw_al _ _)
    have AW4 : Hid (S6 W4 w1.heap.size a b c d x y) := by show S6 _ _ _ _ _ _ _ _; rw [← hW]; exact AW3.out.nw (nw_al _ _)
    have EW4 : Hid (S6 W4 W3.heap.size 65536 0 0 65536 0 0) := by show S6 _ _ _ _ _ _ _ _; rw [← hW]; exact S6.new _ _ _ _ _ _ _ _
    clear hW
    go_upto_region 9 with fail
    rw [HBW4.out]
    obtain ⟨q0, q1, q2, q3, q4, q5⟩ := AW4.out
    obtain ⟨p0, p1, p2, p3, p4, p5⟩ := EW4.out
    go_wp2_with fail
    clear q0 q1 q2 q3 q4 q5 p0 p1 p2 p3 p4 p5
    refine (HI2.out W4).mono ?_
    rintro e w5 ⟨rfl, k⟩
    have Nw5 : Hid (Nw w w5) := Nw.trans NW4.out k.1
    have Aw5 : Hid (S6 w5 w1.heap.size a b c d x y) := AW4.out.nw k.1
    have Ew5 : Hid (S6 w5 W3.heap.size 65536 0 0 65536 0 0) := EW4.out.nw k.1
    clear k
    obtain ⟨W5, hW⟩ : ∃ W, w5.alloc (.cells #[.int .i64 y0, .int .i64 y1, .int .i64 y2, .int .i64 y3, .int .i64 y4, .int .i64 y5] 24) = W := ⟨_, rfl⟩
    have HBW5 : Hid (_ = W5) := hW
    have NW5 : Hid (Nw w W5) := by show Nw _ _; rw [← hW]; exact Nw.trans Nw5.out (nw_al _ _)
    have AW5 : Hid (S6 W5 w1.heap.size a b c d x y) := by show S6 _ _ _ _ _ _ _ _; rw [← hW]; exact Aw5.out.nw (nw_al _ _)
    have EW5 : Hid (S6 W5 W3.heap.size 65536 0 0 65536 0 0) := by show S6 _ _ _ _ _ _ _ _; rw [← hW]; exact Ew5.out.nw (nw_al _ _)
    have YW5 : Hid (S6 W5 w5.heap.size y0 y1 y2 y3 y4 y5) := by show S6 _ _ _ _ _ _ _ _; rw [← hW]; exact S6.new _ _ _ _ _ _ _ _
    clear hW
    go_upto_region 10 with fail
    rw [HBW5.out]
    obtain ⟨q0, q1, q2, q3, q4, q5⟩ := AW5.out
    obtain ⟨p0, p1, p2, p3, p4, p5⟩ := EW5.out
    go_wp2_with fail
    clear q0 q1 q2 q3 q4 q5 p0 p1 p2 p3 p4 p5
    refine (HI3.out W5).mono ?_
    rintro e w6 ⟨rfl, k⟩
    have Nw6 : Hid (Nw w w6) := Nw.trans NW5.out k.1
    have Aw6 : Hid (S6 w6 w1.heap.size a b c d x y) := AW5.out.nw k.1
    have Yw6 : Hid (S6 w6 w5.heap.size y0 y1 y2 y3 y4 y5) := YW5.out.nw k.1
    clear k
    obtain ⟨W6, hW⟩ : ∃ W, w6.alloc (.cells #[.int .i64 z0, .int .i64 z1, .int .i64 z2, .int .i64 z3, .int .i64 z4, .int .i64 z5] 24) = W := ⟨_, rfl⟩
    have HBW6 : Hid (_ = W6) := hW
    have NW6 : Hid (Nw w W6) := by show Nw _ _; rw [← hW]; exact Nw.trans Nw6.out (nw_al _ _)
    have AW6 : Hid (S6 W6 w1.heap.size a b c d x y) := by show S6 _ _ _ _ _ _ _ _; rw [← hW]; exact Aw6.out.nw (nw_al _ _)
    have YW6 : Hid (S6 W6 w5.heap.size y0 y1 y2 y3 y4 y5) := by show S6 _ _ _ _ _ _ _ _; rw [← hW]; exact Yw6.out.nw (nw_al _ _)
    have ZW6 : Hid (S6 W6 w6.heap.size z0 z1 z2 z3 z4 z5) := by show S6 _ _ _ _ _ _ _ _; rw [← hW]; exact S6.new _ _ _ _ _ _ _ _
    clear hW
    go_upto_region 11 with fail
    rw [HBW6.out]
    obtain ⟨q0, q1, q2, q3, q4, q5⟩ := AW6.out
    go_wp2_with fail
    clear q0 q1 q2 q3 q4 q5
    refine (HGA.out W6).mono ?_
    rintro e w7 ⟨rfl, k⟩
    have Nw7 : Hid (Nw w w7) := Nw.trans NW6.out k.1
    have Aw7 : Hid (S6 w7 w1.heap.size a b c d x y) := AW6.out.nw k.1
    have Yw7 : Hid (S6 w7 w5.heap.size y0 y1 y2 y3 y4 y5) := YW6.out.nw k.1
    have Zw7 : Hid (S6 w7 w6.heap.size z0 z1 z2 z3 z4 z5) := ZW6.out.nw k.1
    clear k
    obtain ⟨g, hg⟩ : ∃ g, gA a b c d x y = g := ⟨_, rfl⟩
    rw [hg]
    cases g with
    | false =>
      go_wp2_with fail
      refine (drawNums_any w7 a1 len1 cap1 ml1 (Code.past HC1.out Nw7.out (Below.size Nw7.out))).mono ?_
      rintro e w8 ⟨⟨s, rfl, hs⟩, k8⟩
      have N8 : Hid (Nw w w8) := Nw.trans Nw7.out k8
      clear k8
      have r1 := ireadN s (by omega)
      have r2 := sreadN s (by omega)
      have r3 := nV_len s
      unfold NumSays at r1 r2
      obtain ⟨l, hl⟩ : ∃ l, (nV s).1 = l := ⟨_, rfl⟩
      obtain ⟨bb, hbb⟩ : ∃ bb, (nV s).2 = bb := ⟨_, rfl⟩
      rw [hl, hbb] at r1 r2
      rw [hl] at r3
      have R1 : Hid _ := r1
      have R2 : Hid _ := r2
      have R3 : Hid (l.length ≤ 60) := r3
      clear r1 r2 r3 hl hbb
      go_wp2_with fail
      refine (R1.out w8).mono ?_
      rintro e w9 ⟨v, rfl, hin, k9⟩
      obtain ⟨g1, c1, rfl, hn1⟩ := hin.nms
      have M9 : Hid (Nms w9 g1 l) := hn1
      have N9 : Hid (Nw w w9) := Nw.trans N8.out k9
      clear hin hn1 k9
      go_wp2_with fail
      refine (R2.out w9).mono ?_
      rintro e w10 ⟨v, rfl, hin, k10⟩
      obtain ⟨g2, c2, rfl, hn2⟩ := hin.nms
      have M10 : Hid (Nms w10 g1 l) := M9.out.nw k10
      have M11 : Hid (Nms w10 g2 l) := hn2
      have N10 : Hid (Nw w w10) := Nw.trans N9.out k10
      clear hin hn2 k10
      cases bb
      all_goals
        go_wp2_with fail
        refine (sameInts_any w10 g1 g2 c1 c2 l (by have := R3.out; omega) M10.out M11.out).mono ?_
        rintro e w11 ⟨rfl, n, rfl⟩
        have N11 : Hid (Nw w (w10.drewN n)) := Nw.trans N10.out (nw_drewN4 _ _)
        go_wp2
        go_ret
        exact ⟨rfl, N11.out⟩
    | true =>
      have e2 := HG2.out hg
      have e3 := HG3.out hg
      injection e2 with i0 i1 i2 i3 i4 i5 i6
      injection e3 with j0 j1 j2 j3 j4 j5 j6
      subst i0 i1 i2 i3 i4 i5 i6 j0 j1 j2 j3 j4 j5 j6
      obtain ⟨q0, q1, q2, q3, q4, q5⟩ := Aw7.out
      obtain ⟨p0, p1, p2, p3, p4, p5⟩ := Yw7.out
      obtain ⟨u0, u1, u2, u3, u4, u5⟩ := Zw7.out
      go_wp2_with fail
      refine (drawNums_any w7 a1 len1 cap1 ml1 (Code.past HC1.out Nw7.out (Below.size Nw7.out))).mono ?_
      rintro e w8 ⟨⟨s, rfl, hs⟩, k8⟩
      have N8 : Hid (Nw w w8) := Nw.trans Nw7.out k8
      clear k8
      have r1 := ireadN s (by omega)
      have r2 := sreadN s (by omega)
      have r3 := nV_len s
      unfold NumSays at r1 r2
      obtain ⟨l, hl⟩ : ∃ l, (nV s).1 = l := ⟨_, rfl⟩
      obtain ⟨bb, hbb⟩ : ∃ bb, (nV s).2 = bb := ⟨_, rfl⟩
      rw [hl, hbb] at r1 r2
      rw [hl] at r3
      have R1 : Hid _ := r1
      have R2 : Hid _ := r2
      have R3 : Hid (l.length ≤ 60) := r3
      clear r1 r2 r3 hl hbb
      go_wp2_with fail
      refine (R1.out w8).mono ?_
      rintro e w9 ⟨v, rfl, hin, k9⟩
      obtain ⟨g1, c1, rfl, hn1⟩ := hin.nms
      have M9 : Hid (Nms w9 g1 l) := hn1
      have N9 : Hid (Nw w w9) := Nw.trans N8.out k9
      clear hin hn1 k9
      go_wp2_with fail
      refine (R2.out w9).mono ?_
      rintro e w10 ⟨v, rfl, hin, k10⟩
      obtain ⟨g2, c2, rfl, hn2⟩ := hin.nms
      have M10 : Hid (Nms w10 g1 l) := M9.out.nw k10
      have M11 : Hid (Nms w10 g2 l) := hn2
      have N10 : Hid (Nw w w10) := Nw.trans N9.out k10
      clear hin hn2 k10
      cases bb
      all_goals
        go_wp2_with fail
        refine (sameInts_any w10 g1 g2 c1 c2 l (by have := R3.out; omega) M10.out M11.out).mono ?_
        rintro e w11 ⟨rfl, n, rfl⟩
        have N11 : Hid (Nw w (w10.drewN n)) := Nw.trans N10.out (nw_drewN4 _ _)
        go_wp2
        go_ret
        exact ⟨rfl, N11.out⟩
end Go.Proofs.YtpfhnedklihdoaaGreatDoor
