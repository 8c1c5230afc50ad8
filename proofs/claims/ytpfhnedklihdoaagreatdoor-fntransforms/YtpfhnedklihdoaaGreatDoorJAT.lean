/-
  What the specification's draw of a fixed number answers: some int, and of what was there nothing but the reader is written; each theorem names its conditions.
  The reader of choices at its start; each theorem names its conditions.
  The program's product of two transforms: one statement of twelve products, whatever order its operations come up in; no condition.
  MulAffine of the program, its statement of twelve products run whole; no condition.
-/
import Derived.Test.YtpfhnedklihdoaaGreatDoorJAS
import Derived.Test.YtpfhnedklihdoaaGreatDoorJAR
import Derived.Test.YtpfhnedklihdoaaGreatDoorJAN
import Derived.Test.YtpfhnedklihdoaaGreatDoorJAL
namespace Go.Proofs.YtpfhnedklihdoaaGreatDoor
open Go.ChangeShapes Go.WideShapes Go.ChangeAt Go.RowKit
set_option linter.unusedVariables false

theorem Gr.drew {B : Nat} {a b : World} (h : Gr B a b) : Gr B a b.drew := by
  have h' : a.grownBy b (some B) := h
  exact ⟨h'.os, h'.tape, h'.output, h'.size, h'.block⟩
set_option maxHeartbeats 2000000 in
theorem fixed_gr (w : World) (B : Nat) (ca : Option Addr) (len cap n : Nat) (hl : len ≤ 9223372036854775807) (hn : n ≤ 100000000) (hc : Cur w B ca len cap n) (hd : Code w B ca len) :
    Calls Tryz.prog 26 #[.pointer (some ⟨B, 0, none⟩)] w fun e w' => ∃ v : Int, e = .returned (.int .i64 v) ∧ (Lit.int .i64 v).wf = true ∧ Cur w' B ca len cap (n + 20) ∧ Gr B w w' := by
  have HC : Hid (Cur w B ca len cap n) := hc
  have HD : Hid (Code w B ca len) := hd
  have HBW : Hid (B ≤ w.heap.size) := Nat.le_of_lt hc.lt
  clear hc hd
  go_enter Tryz.func26, Tryz.ntmps26
  go_wp2_with fail
  refine (pick_any w B ca len cap n 7 hl (by omega) (by omega) (by omega) HC.out HD.out).mono ?_
  rintro e w1 ⟨v, rfl, v0, v1, hc1, hb1⟩
  have hB1 := hc1.lt
  have hd1 := Code.below HD.out hb1.below
  have HC1 : Hid (Cur w1 B ca len cap (n + 2)) := hc1
  have HB1 : Hid (Sel B w w1) := hb1
  have HD1 : Hid (Code w1 B ca len) := hd1
  clear hc1 hb1 hd1
  by_cases e0 : v = 0
  · subst e0
    go_wp2_with fail
    refine (among_any _ B w1.heap.size 7 [0, 65536, -65536, 1099511627776, -1099511627776, 1, -1] rfl ca len cap (n + 2) hl (by omega) (by omega) (by omega) (by omega) (nums_alloc [0, 65536, -65536, 1099511627776, -1099511627776, 1, -1] w1 3) (HC1.out.alloc _ _) (HD1.out.alloc (by omega) _)).mono ?_
    rintro e w2 ⟨u, rfl, hu, hc2, hb2⟩
    have HW : Hid _ := wf_mem _ (by decide) u hu
    have HC2 : Hid (Cur w2 B ca len cap (n + 2 + 2)) := hc2
    have HB2 : Hid _ := Gr.of_sel hb2
    clear hc2 hb2 hu
    go_wp2
    go_ret
    exact ⟨u, rfl, HW.out, Cur.mono HC2.out (by omega), (Gr.alloc (Gr.of_sel HB1.out) _).trans HB2.out⟩
  have z0 : (v == 0) = false := by rw [beq_eq_false_iff_ne]; exact e0
  by_cases e1 : v = 1
  · subst e1
    go_wp2_with fail
    refine (wide_any w1 B ca len cap (n + 2) hl (by omega) HC1.out HD1.out).mono ?_
    rintro e w2 ⟨u, rfl, hu, hc2, hb2⟩
    have ub := tmod_bd u
    have HC2 : Hid (Cur w2 B ca len cap (n + 2 + 8)) := hc2
    have HB2 : Hid _ := Gr.of_sel hb2
    clear hc2 hb2 hu
    obtain ⟨ub1, ub2⟩ := ub
    go_wp2
    go_ret
    exact ⟨u.tmod 1099511627777, rfl, WalkArith.wf_i64 (by omega), Cur.mono HC2.out (by omega), (Gr.of_sel HB1.out).trans HB2.out⟩
  have z1 : (v == 1) = false := by rw [beq_eq_false_iff_ne]; exact e1
  by_cases e2 : v = 2
  · subst e2
    go_wp2_with fail
    refine (pick_any w1 B ca len cap (n + 2) 65536 hl (by omega) (by omega) (by omega) HC1.out HD1.out).mono ?_
    rintro e w2 ⟨u, rfl, u0, u1, hc2, hb2⟩
    have HC2 : Hid (Cur w2 B ca len cap (n + 2 + 2)) := hc2
    have HB2 : Hid _ := Gr.of_sel hb2
    clear hc2 hb2
    go_wp2
    go_ret
    exact ⟨u - 32768, rfl, WalkArith.wf_i64 (by omega), Cur.mono HC2.out (by omega), (Gr.of_sel HB1.out).trans HB2.out⟩
  have z2 : (v == 2) = false := by rw [beq_eq_false_iff_ne]; exact e2
  clear e0 e1 e2
  go_wp2_with fail
  go_region_with (first
    | (go_at_call_of 17 (Value.int .i64 41)
       refine (pick_any _ B ca len cap (n + 2) 41 hl (by omega) (by omega) (by omega) ?_ ?_).mono ?_
       · first | exact HC1.out | exact HC1.out.alloc _ _
       · first | exact HD1.out | exact HD1.out.alloc (by omega) _
       rintro e w2 ⟨p, rfl, p0, p1, hc2, hb2⟩
       have hB2 := hc2.lt
       have HC2 : Hid (Cur w2 B ca len cap (n + 2 + 2)) := hc2
       have HE2 : Hid (Gr B w w2) := by first | exact (Gr.of_sel HB1.out).drew.trans (Gr.of_sel hb2) | exact (Gr.alloc (Gr.of_sel HB1.out) _).drew.trans (Gr.of_sel hb2)
       have HD2 : Hid (Code w2 B ca len) := Code.below HD.out (Gr.below HE2.out HBW.out)
       first | (have HN2 : Hid (Nums w2 w1.heap.size [1, 2, 3, 4, 7]) := Nums.sel (by exact nums_alloc [1, 2, 3, 4, 7] w1 3) hb2 (by omega)) | skip
       clear hc2 hb2)
    | (go_at_call_of 43 (w1.heap.size)
       refine (among_any _ B w1.heap.size 5 [1, 2, 3, 4, 7] rfl ca len cap (n + 4) hl (by omega) (by omega) (by omega) (by omega) HN2.out HC2.out HD2.out).mono ?_
       rintro e w3 ⟨d, rfl, hdm, hc3, hb3⟩
       obtain ⟨d1, d2⟩ := small_of d hdm
       have HC3 : Hid (Cur w3 B ca len cap (n + 4 + 2)) := hc3
       have HE3 : Hid (Gr B w w3) := HE2.out.trans (Gr.of_sel hb3)
       clear hc3 hb3 hdm)
    | (go_at_call 43
       refine (among_any _ B w2.heap.size 5 [1, 2, 3, 4, 7] rfl ca len cap (n + 4) hl (by omega) (by omega) (by omega) (by omega) (nums_alloc [1, 2, 3, 4, 7] w2 3) (HC2.out.alloc _ _) (HD2.out.alloc (by omega) _)).mono ?_
       rintro e w3 ⟨d, rfl, hdm, hc3, hb3⟩
       obtain ⟨d1, d2⟩ := small_of d hdm
       have HC3 : Hid (Cur w3 B ca len cap (n + 4 + 2)) := hc3
       have HE3 : Hid (Gr B w w3) := (Gr.alloc HE2.out _).trans (Gr.of_sel hb3)
       clear hc3 hb3 hdm)
    | (go_at_call_of 17 (Value.int .i64 3)
       refine (pick_any _ B ca len cap (n + 6) 3 hl (by omega) (by omega) (by omega) HC3.out (Code.below HD.out (Gr.below HE3.out HBW.out))).mono ?_
       rintro e w4 ⟨q, rfl, q0, q1, hc4, hb4⟩
       have HC4 : Hid (Cur w4 B ca len cap (n + 6 + 2)) := hc4
       have HE4 : Hid (Gr B w w4) := HE3.out.trans (Gr.of_sel hb4)
       clear hc4 hb4))
  all_goals
    go_wp2_with fail
    refine (one_any w4 B ca len cap (n + 8) 60 hl (by omega) (by omega) (by omega) HC4.out (Code.below HD.out (Gr.below HE4.out HBW.out))).mono ?_
    rintro e w5 ⟨bb, rfl, hc5, hb5⟩
    have hB5 := hc5.lt
    have HC5 : Hid (Cur w5 B ca len cap (n + 8 + 2)) := hc5
    have HE5 : Hid (Gr B w w5) := HE4.out.trans (Gr.of_sel hb5)
    clear hc5 hb5
    cases bb
    · go_wp2
      go_ret
      exact ⟨_, rfl, by go_wf, Cur.mono HC5.out (by omega), HE5.out⟩
    · go_wp2_with fail
      refine (among_any _ B w5.heap.size 4 [1099511627777, -1099511627777, 9223372036854775807, -9223372036854775808] rfl ca len cap (n + 10) hl (by omega) (by omega) (by omega) (by omega) (nums_alloc [1099511627777, -1099511627777, 9223372036854775807, -9223372036854775808] w5 3) (HC5.out.alloc _ _) (Code.alloc (Code.below HD.out (Gr.below HE5.out HBW.out)) (by omega) _)).mono ?_
      rintro e w6 ⟨u, rfl, hu, hc6, hb6⟩
      have HW : Hid _ := wf_mem _ (by decide) u hu
      have HC6 : Hid (Cur w6 B ca len cap (n + 10 + 2)) := hc6
      have HE6 : Hid (Gr B w w6) := (Gr.alloc HE5.out _).trans (Gr.of_sel hb6)
      clear hc6 hb6 hu
      go_wp2
      go_ret
      exact ⟨u, rfl, HW.out, Cur.mono HC6.out (by omega), HE6.out⟩
end Go.Proofs.YtpfhnedklihdoaaGreatDoor
namespace Go.Proofs.YtpfhnedklihdoaaGreatDoor
open Go.ChangeShapes Go.WideShapes Go.ChangeAt Go.RowKit
set_option linter.unusedVariables false

theorem Code.past {w w1 : World} {B B' : Nat} {ca : Option Addr} {len : Nat} (h : Code w B ca len) (hb : Below B w w1) (hB : B ≤ B') : Code w1 B' ca len := by
  rcases h with h | ⟨b, off, h1, h2, h3⟩
  · exact Or.inl h
  · refine Or.inr ⟨b, off, h1, by omega, fun i hi => ?_⟩
    obtain ⟨v, v0, v1, hv⟩ := h3 i hi
    exact ⟨v, v0, v1, by rw [hb.cell (p := ⟨b, off + i, none⟩) h2]; exact hv⟩
theorem Gr.nw {w W w' : World} (h : Nw w W) (k : Gr w.heap.size W w') : Nw w w' := by
  have k' : W.grownBy w' (some w.heap.size) := k
  exact ⟨k'.os.trans (Below.os h), k'.tape.trans (Below.tape h), k'.output.trans (Below.output h), Nat.le_trans (Below.size h) k'.size, fun i hi => (k'.block i (Nat.lt_of_lt_of_le hi (Below.size h)) (fun e => by have := Option.some.inj e; omega)).trans (Below.block h i hi)⟩
theorem cur0 (w : World) (ca : Option Addr) (len cap : Nat) : Cur (w.alloc (.cells #[.slice ca len cap, .int .i64 0, .int .u64 0] 39)) w.heap.size ca len cap 0 :=
  ⟨0, 0, by omega, by omega, by omega, by simp, by simp, by simp, fun o => World.frozen?_alloc_at _ _ _ _ rfl, by simp⟩
end Go.Proofs.YtpfhnedklihdoaaGreatDoor
namespace Go.Proofs.YtpfhnedklihdoaaGreatDoor
open Go.ChangeShapes Go.WideShapes Go.ChangeAt Go.RowKit
set_option linter.unusedVariables false

/-- Two transforms in their boxes, a product of numbers, the frame and the world ahead of the statement. -/
structure MX where
  m : Int → Int → Int
  a : Int
  b : Int
  c : Int
  d : Int
  e : Int
  f : Int
  p : Int
  q : Int
  r : Int
  s : Int
  t : Int
  u : Int
  B : Nat
  W : World
  a0 : Act
structure MXok (X : MX) : Prop where
  hB : X.B + 1 < X.W.heap.size
  c0 : X.W.cell? ⟨X.B, 0, none⟩ = some (.int .i64 X.a)
  c1 : X.W.cell? ⟨X.B, 1, none⟩ = some (.int .i64 X.b)
  c2 : X.W.cell? ⟨X.B, 2, none⟩ = some (.int .i64 X.c)
  c3 : X.W.cell? ⟨X.B, 3, none⟩ = some (.int .i64 X.d)
  c4 : X.W.cell? ⟨X.B, 4, none⟩ = some (.int .i64 X.e)
  c5 : X.W.cell? ⟨X.B, 5, none⟩ = some (.int .i64 X.f)
  g0 : X.W.cell? ⟨X.B + 1, 0, none⟩ = some (.int .i64 X.p)
  g1 : X.W.cell? ⟨X.B + 1, 1, none⟩ = some (.int .i64 X.q)
  g2 : X.W.cell? ⟨X.B + 1, 2, none⟩ = some (.int .i64 X.r)
  g3 : X.W.cell? ⟨X.B + 1, 3, none⟩ = some (.int .i64 X.s)
  g4 : X.W.cell? ⟨X.B + 1, 4, none⟩ = some (.int .i64 X.t)
  g5 : X.W.cell? ⟨X.B + 1, 5, none⟩ = some (.int .i64 X.u)
  e2 : X.a0.eval (.tmp 2) = .pointer (some ⟨X.B, 0, none⟩)
  e3 : X.a0.eval (.tmp 3) = .pointer (some ⟨X.B + 1, 0, none⟩)
  sz : X.a0.tmps.size = 94
  call : ∀ x y w, Calls Tryz.prog 14 #[.int .i64 x, .int .i64 y] w fun e w' => e = .returned (.int .i64 (X.m x y)) ∧ w' = w
def zero6 : Array Value := #[.int .i64 0, .int .i64 0, .int .i64 0, .int .i64 0, .int .i64 0, .int .i64 0]
def MX.val (X : MX) : Nat → Value
  | 6 => .pointer (some ⟨X.W.heap.size, 0, none⟩)
  | 16 => .pointer (some ⟨X.B, 0, none⟩)
  | 17 => .int .i64 X.a
  | 18 => .pointer (some ⟨X.B + 1, 0, none⟩)
  | 19 => .int .i64 X.p
  | 20 => .int .i64 (X.m X.a X.p)
  | 21 => .pointer (some ⟨X.B, 2, none⟩)
  | 22 => .int .i64 X.c
  | 23 => .pointer (some ⟨X.B + 1, 1, none⟩)
  | 24 => .int .i64 X.q
  | 25 => .int .i64 (X.m X.c X.q)
  | 26 => .int .i64 (IntKind.i64.wrap ((X.m X.a X.p) + (X.m X.c X.q)))
  | 27 => .pointer (some ⟨X.B, 1, none⟩)
  | 28 => .int .i64 X.b
  | 29 => .pointer (some ⟨X.B + 1, 0, none⟩)
  | 30 => .int .i64 X.p
  | 31 => .int .i64 (X.m X.b X.p)
  | 32 => .pointer (some ⟨X.B, 3, none⟩)
  | 33 => .int .i64 X.d
  | 34 => .pointer (some ⟨X.B + 1, 1, none⟩)
  | 35 => .int .i64 X.q
  | 36 => .int .i64 (X.m X.d X.q)
  | 37 => .int .i64 (IntKind.i64.wrap ((X.m X.b X.p) + (X.m X.d X.q)))
  | 38 => .pointer (some ⟨X.B, 0, none⟩)
  | 39 => .int .i64 X.a
  | 40 => .pointer (some ⟨X.B + 1, 2, none⟩)
  | 41 => .int .i64 X.r
  | 42 => .int .i64 (X.m X.a X.r)
  | 43 => .pointer (some ⟨X.B, 2, none⟩)
  | 44 => .int .i64 X.c
  | 45 => .pointer (some ⟨X.B + 1, 3, none⟩)
  | 46 => .int .i64 X.s
  | 47 => .int .i64 (X.m X.c X.s)
  | 48 => .int .i64 (IntKind.i64.wrap ((X.m X.a X.r) + (X.m X.c X.s)))
  | 49 => .pointer (some ⟨X.B, 1, none⟩)
  | 50 => .int .i64 X.b
  | 51 => .pointer (some ⟨X.B + 1, 2, none⟩)
  | 52 => .int .i64 X.r
  | 53 => .int .i64 (X.m X.b X.r)
  | 54 => .pointer (some ⟨X.B, 3, none⟩)
  | 55 => .int .i64 X.d
  | 56 => .pointer (some ⟨X.B + 1, 3, none⟩)
  | 57 => .int .i64 X.s
  | 58 => .int .i64 (X.m X.d X.s)
  | 59 => .int .i64 (IntKind.i64.wrap ((X.m X.b X.r) + (X.m X.d X.s)))
  | 60 => .pointer (some ⟨X.B, 0, none⟩)
  | 61 => .int .i64 X.a
  | 62 => .pointer (some ⟨X.B + 1, 4, none⟩)
  | 63 => .int .i64 X.t
  | 64 => .int .i64 (X.m X.a X.t)
  | 65 => .pointer (some ⟨X.B, 2, none⟩)
  | 66 => .int .i64 X.c
  | 67 => .pointer (some ⟨X.B + 1, 5, none⟩)
  | 68 => .int .i64 X.u
  | 69 => .int .i64 (X.m X.c X.u)
  | 70 => .int .i64 (IntKind.i64.wrap ((X.m X.a X.t) + (X.m X.c X.u)))
  | 71 => .pointer (some ⟨X.B, 4, none⟩)
  | 72 => .int .i64 X.e
  | 73 => .int .i64 (IntKind.i64.wrap ((IntKind.i64.wrap ((X.m X.a X.t) + (X.m X.c X.u))) + X.e))
  | 74 => .pointer (some ⟨X.B, 1, none⟩)
  | 75 => .int .i64 X.b
  | 76 => .pointer (some ⟨X.B + 1, 4, none⟩)
  | 77 => .int .i64 X.t
  | 78 => .int .i64 (X.m X.b X.t)
  | 79 => .pointer (some ⟨X.B, 3, none⟩)
  | 80 => .int .i64 X.d
  | 81 => .pointer (some ⟨X.B + 1, 5, none⟩)
  | 82 => .int .i64 X.u
  | 83 => .int .i64 (X.m X.d X.u)
  | 84 => .int .i64 (IntKind.i64.wrap ((X.m X.b X.t) + (X.m X.d X.u)))
  | 85 => .pointer (some ⟨X.B, 5, none⟩)
  | 86 => .int .i64 X.f
  | 87 => .int .i64 (IntKind.i64.wrap ((IntKind.i64.wrap ((X.m X.b X.t) + (X.m X.d X.u))) + X.f))
  | 88 => affV (IntKind.i64.wrap ((X.m X.a X.p) + (X.m X.c X.q))) (IntKind.i64.wrap ((X.m X.b X.p) + (X.m X.d X.q))) (IntKind.i64.wrap ((X.m X.a X.r) + (X.m X.c X.s))) (IntKind.i64.wrap ((X.m X.b X.r) + (X.m X.d X.s))) (IntKind.i64.wrap ((IntKind.i64.wrap ((X.m X.a X.t) + (X.m X.c X.u))) + X.e)) (IntKind.i64.wrap ((IntKind.i64.wrap ((X.m X.b X.t) + (X.m X.d X.u))) + X.f))
  | _ => undef
def MX.cells (X : MX) : Array Value := #[.int .i64 (IntKind.i64.wrap ((X.m X.a X.p) + (X.m X.c X.q))), .int .i64 (IntKind.i64.wrap ((X.m X.b X.p) + (X.m X.d X.q))), .int .i64 (IntKind.i64.wrap ((X.m X.a X.r) + (X.m X.c X.s))), .int .i64 (IntKind.i64.wrap ((X.m X.b X.r) + (X.m X.d X.s))), .int .i64 (IntKind.i64.wrap ((IntKind.i64.wrap ((X.m X.a X.t) + (X.m X.c X.u))) + X.e)), .int .i64 (IntKind.i64.wrap ((IntKind.i64.wrap ((X.m X.b X.t) + (X.m X.d X.u))) + X.f))]
theorem MX.v6 (X : MX) : X.val 6 = .pointer (some ⟨X.W.heap.size, 0, none⟩) := rfl
theorem MX.v16 (X : MX) : X.val 16 = .pointer (some ⟨X.B, 0, none⟩) := rfl
theorem MX.v17 (X : MX) : X.val 17 = .int .i64 X.a := rfl
theorem MX.v18 (X : MX) : X.val 18 = .pointer (some ⟨X.B + 1, 0, none⟩) := rfl
theorem MX.v19 (X : MX) : X.val 19 = .int .i64 X.p := rfl
theorem MX.v20 (X : MX) : X.val 20 = .int .i64 (X.m X.a X.p) := rfl
theorem MX.v21 (X : MX) : X.val 21 = .pointer (some ⟨X.B, 2, none⟩) := rfl
theorem MX.v22 (X : MX) : X.val 22 = .int .i64 X.c := rfl
theorem MX.v23 (X : MX) : X.val 23 = .pointer (some ⟨X.B + 1, 1, none⟩) := rfl
theorem MX.v24 (X : MX) : X.val 24 = .int .i64 X.q := rfl
theorem MX.v25 (X : MX) : X.val 25 = .int .i64 (X.m X.c X.q) := rfl
theorem MX.v26 (X : MX) : X.val 26 = .int .i64 (IntKind.i64.wrap ((X.m X.a X.p) + (X.m X.c X.q))) := rfl
theorem MX.v27 (X : MX) : X.val 27 = .pointer (some ⟨X.B, 1, none⟩) := rfl
theorem MX.v28 (X : MX) : X.val 28 = .int .i64 X.b := rfl
theorem MX.v29 (X : MX) : X.val 29 = .pointer (some ⟨X.B + 1, 0, none⟩) := rfl
theorem MX.v30 (X : MX) : X.val 30 = .int .i64 X.p := rfl
theorem MX.v31 (X : MX) : X.val 31 = .int .i64 (X.m X.b X.p) := rfl
theorem MX.v32 (X : MX) : X.val 32 = .pointer (some ⟨X.B, 3, none⟩) := rfl
theorem MX.v33 (X : MX) : X.val 33 = .int .i64 X.d := rfl
theorem MX.v34 (X : MX) : X.val 34 = .pointer (some ⟨X.B + 1, 1, none⟩) := rfl
theorem MX.v35 (X : MX) : X.val 35 = .int .i64 X.q := rfl
theorem MX.v36 (X : MX) : X.val 36 = .int .i64 (X.m X.d X.q) := rfl
theorem MX.v37 (X : MX) : X.val 37 = .int .i64 (IntKind.i64.wrap ((X.m X.b X.p) + (X.m X.d X.q))) := rfl
theorem MX.v38 (X : MX) : X.val 38 = .pointer (some ⟨X.B, 0, none⟩) := rfl
theorem MX.v39 (X : MX) : X.val 39 = .int .i64 X.a := rfl
theorem MX.v40 (X : MX) : X.val 40 = .pointer (some ⟨X.B + 1, 2, none⟩) := rfl
theorem MX.v41 (X : MX) : X.val 41 = .int .i64 X.r := rfl
theorem MX.v42 (X : MX) : X.val 42 = .int .i64 (X.m X.a X.r) := rfl
theorem MX.v43 (X : MX) : X.val 43 = .pointer (some ⟨X.B, 2, none⟩) := rfl
theorem MX.v44 (X : MX) : X.val 44 = .int .i64 X.c := rfl
theorem MX.v45 (X : MX) : X.val 45 = .pointer (some ⟨X.B + 1, 3, none⟩) := rfl
theorem MX.v46 (X : MX) : X.val 46 = .int .i64 X.s := rfl
theorem MX.v47 (X : MX) : X.val 47 = .int .i64 (X.m X.c X.s) := rfl
theorem MX.v48 (X : MX) : X.val 48 = .int .i64 (IntKind.i64.wrap ((X.m X.a X.r) + (X.m X.c X.s))) := rfl
theorem MX.v49 (X : MX) : X.val 49 = .pointer (some ⟨X.B, 1, none⟩) := rfl
theorem MX.v50 (X : MX) : X.val 50 = .int .i64 X.b := rfl
theorem MX.v51 (X : MX) : X.val 51 = .pointer (some ⟨X.B + 1, 2, none⟩) := rfl
theorem MX.v52 (X : MX) : X.val 52 = .int .i64 X.r := rfl
theorem MX.v53 (X : MX) : X.val 53 = .int .i64 (X.m X.b X.r) := rfl
theorem MX.v54 (X : MX) : X.val 54 = .pointer (some ⟨X.B, 3, none⟩) := rfl
theorem MX.v55 (X : MX) : X.val 55 = .int .i64 X.d := rfl
theorem MX.v56 (X : MX) : X.val 56 = .pointer (some ⟨X.B + 1, 3, none⟩) := rfl
theorem MX.v57 (X : MX) : X.val 57 = .int .i64 X.s := rfl
theorem MX.v58 (X : MX) : X.val 58 = .int .i64 (X.m X.d X.s) := rfl
theorem MX.v59 (X : MX) : X.val 59 = .int .i64 (IntKind.i64.wrap ((X.m X.b X.r) + (X.m X.d X.s))) := rfl
theorem MX.v60 (X : MX) : X.val 60 = .pointer (some ⟨X.B, 0, none⟩) := rfl
theorem MX.v61 (X : MX) : X.val 61 = .int .i64 X.a := rfl
theorem MX.v62 (X : MX) : X.val 62 = .pointer (some ⟨X.B + 1, 4, none⟩) := rfl
theorem MX.v63 (X : MX) : X.val 63 = .int .i64 X.t := rfl
theorem MX.v64 (X : MX) : X.val 64 = .int .i64 (X.m X.a X.t) := rfl
theorem MX.v65 (X : MX) : X.val 65 = .pointer (some ⟨X.B, 2, none⟩) := rfl
theorem MX.v66 (X : MX) : X.val 66 = .int .i64 X.c := rfl
theorem MX.v67 (X : MX) : X.val 67 = .pointer (some ⟨X.B + 1, 5, none⟩) := rfl
theorem MX.v68 (X : MX) : X.val 68 = .int .i64 X.u := rfl
theorem MX.v69 (X : MX) : X.val 69 = .int .i64 (X.m X.c X.u) := rfl
theorem MX.v70 (X : MX) : X.val 70 = .int .i64 (IntKind.i64.wrap ((X.m X.a X.t) + (X.m X.c X.u))) := rfl
theorem MX.v71 (X : MX) : X.val 71 = .pointer (some ⟨X.B, 4, none⟩) := rfl
theorem MX.v72 (X : MX) : X.val 72 = .int .i64 X.e := rfl
theorem MX.v73 (X : MX) : X.val 73 = .int .i64 (IntKind.i64.wrap ((IntKind.i64.wrap ((X.m X.a X.t) + (X.m X.c X.u))) + X.e)) := rfl
theorem MX.v74 (X : MX) : X.val 74 = .pointer (some ⟨X.B, 1, none⟩) := rfl
theorem MX.v75 (X : MX) : X.val 75 = .int .i64 X.b := rfl
theorem MX.v76 (X : MX) : X.val 76 = .pointer (some ⟨X.B + 1, 4, none⟩) := rfl
theorem MX.v77 (X : MX) : X.val 77 = .int .i64 X.t := rfl
theorem MX.v78 (X : MX) : X.val 78 = .int .i64 (X.m X.b X.t) := rfl
theorem MX.v79 (X : MX) : X.val 79 = .pointer (some ⟨X.B, 3, none⟩) := rfl
theorem MX.v80 (X : MX) : X.val 80 = .int .i64 X.d := rfl
theorem MX.v81 (X : MX) : X.val 81 = .pointer (some ⟨X.B + 1, 5, none⟩) := rfl
theorem MX.v82 (X : MX) : X.val 82 = .int .i64 X.u := rfl
theorem MX.v83 (X : MX) : X.val 83 = .int .i64 (X.m X.d X.u) := rfl
theorem MX.v84 (X : MX) : X.val 84 = .int .i64 (IntKind.i64.wrap ((X.m X.b X.t) + (X.m X.d X.u))) := rfl
theorem MX.v85 (X : MX) : X.val 85 = .pointer (some ⟨X.B, 5, none⟩) := rfl
theorem MX.v86 (X : MX) : X.val 86 = .int .i64 X.f := rfl
theorem MX.v87 (X : MX) : X.val 87 = .int .i64 (IntKind.i64.wrap ((IntKind.i64.wrap ((X.m X.b X.t) + (X.m X.d X.u))) + X.f)) := rfl
theorem MX.v88 (X : MX) : X.val 88 = affV (IntKind.i64.wrap ((X.m X.a X.p) + (X.m X.c X.q))) (IntKind.i64.wrap ((X.m X.b X.p) + (X.m X.d X.q))) (IntKind.i64.wrap ((X.m X.a X.r) + (X.m X.c X.s))) (IntKind.i64.wrap ((X.m X.b X.r) + (X.m X.d X.s))) (IntKind.i64.wrap ((IntKind.i64.wrap ((X.m X.a X.t) + (X.m X.c X.u))) + X.e)) (IntKind.i64.wrap ((IntKind.i64.wrap ((X.m X.b X.t) + (X.m X.d X.u))) + X.f)) := rfl
/-- The world, by what has come up. -/
def MX.wd (X : MX) (listed : Array Bool) : World := if listed.getD 74 false = true then X.W.alloc (.cells X.cells 24) else if listed.getD 73 false = true then X.W.alloc (.cells zero6 24) else X.W
theorem MX.wd_cell (X : MX) (listed : Array Bool) (b o : Nat) (hb : b < X.W.heap.size) : (X.wd listed).cell? ⟨b, o, none⟩ = X.W.cell? ⟨b, o, none⟩ := by
  unfold MX.wd
  split
  · exact World.cell?_alloc_past _ _ _ hb
  · split
    · exact World.cell?_alloc_past _ _ _ hb
    · rfl
def MX.inv (X : MX) (listed : Array Bool) (a : Act) (w : World) : Prop :=
  FrI (opsOf 3 Tryz.f5) X.val X.a0 listed a ∧ w = X.wd listed ∧ (listed.getD 74 false = true → listed.getD 73 false = true)
theorem MX.wd_set (X : MX) {listed : Array Bool} {i : Nat} (hi : i < listed.size) (h1 : i ≠ 73) (h2 : i ≠ 74) : X.wd (listed.setIfInBounds i true) = X.wd listed := by
  unfold MX.wd
  rw [getF_set hi, getF_set hi, decide_eq_false (fun h => h2 h.symm), decide_eq_false (fun h => h1 h.symm), Bool.false_or, Bool.false_or]
theorem inv_set {listed : Array Bool} {i : Nat} (hi : i < listed.size) (h2 : i ≠ 74) (h : listed.getD 74 false = true → listed.getD 73 false = true) : (listed.setIfInBounds i true).getD 74 false = true → (listed.setIfInBounds i true).getD 73 false = true := by
  rw [getF_set hi, getF_set hi, decide_eq_false (fun h => h2 h.symm), Bool.false_or]
  intro h3
  rw [h h3]; simp
theorem fields {ops : Array Oper} {i : Nat} {o : Oper} {x : Option Tmp} {y : Op} {z : Option (Nat × Bool)} (h : (ops[i]?).map (fun o => (o.dst, o.op, o.guard)) = some (x, y, z)) (ho : ops[i]? = some o) : o.dst = x ∧ o.op = y ∧ o.guard = z := by
  rw [ho] at h
  simp only [Option.map_some, Option.some.injEq, Prod.mk.injEq] at h
  exact h
theorem waits {ops : Array Oper} {listed : Array Bool} {i j : Nat} {o : Oper} (ho : ops[i]? = some o) (h : (ops[i]?).map (fun o => o.after.any fun e => decide (e.on = j) && Region.binds .any e) = some true)
    (h2 : ∀ e ∈ o.after, Region.binds .any e = true → listed.getD e.on false = true) : listed.getD j false = true := by
  rw [ho] at h
  simp only [Option.map_some, Option.some.injEq, Array.any_eq_true] at h
  obtain ⟨k, hk, h3⟩ := h
  simp only [Bool.and_eq_true, decide_eq_true_eq] at h3
  have := h2 _ (Array.getElem_mem hk) h3.2
  rw [h3.1] at this
  exact this
theorem st_val (X : MX) {Q : Exit → Act → World → Prop} {listed : Array Bool} {a : Act} {w : World} {i d : Nat} {o : Oper} (hI : X.inv listed a w) (ho : (opsOf 3 Tryz.f5)[i]? = some o) (hd : o.dst = some d) (hg : o.guard = none) (h1 : i ≠ 73) (h2 : i ≠ 74)
    (hrun : (execOp a.eval o).run Tryz.prog (X.wd listed) = .ok (.value (X.val d)) (X.wd listed)) : wpOp Tryz.prog (opsOf 3 Tryz.f5) Q i (fun a' w' => X.inv (listed.setIfInBounds i true) a' w') a w := by
  obtain ⟨hF, rfl, h3⟩ := hI
  have hi := hF.lt ho
  unfold wpOp
  rw [ho]
  have hw : Region.wanted o (yielded (opsOf 3 Tryz.f5) a.tmps) = true := by unfold Region.wanted; rw [hg]
  simp only [hw, if_true]
  refine Or.inl ?_
  unfold Oper.wp
  rw [hrun]
  exact ⟨hF.put ho hd, (X.wd_set hi h1 h2).symm, inv_set hi h2 h3⟩
theorem st_call (X : MX) {Q : Exit → Act → World → Prop} {listed : Array Bool} {a : Act} {w : World} {i d : Nat} {o : Oper} {f : FuncId} {args : Array Value} (hI : X.inv listed a w) (ho : (opsOf 3 Tryz.f5)[i]? = some o) (hd : o.dst = some d) (hg : o.guard = none) (h1 : i ≠ 73) (h2 : i ≠ 74)
    (hrun : (execOp a.eval o).run Tryz.prog (X.wd listed) = .ok (.enter f args) (X.wd listed)) (hc : Calls Tryz.prog f args (X.wd listed) fun e w' => e = .returned (X.val d) ∧ w' = X.wd listed) : wpOp Tryz.prog (opsOf 3 Tryz.f5) Q i (fun a' w' => X.inv (listed.setIfInBounds i true) a' w') a w := by
  obtain ⟨hF, rfl, h3⟩ := hI
  have hi := hF.lt ho
  unfold wpOp
  rw [ho]
  have hw : Region.wanted o (yielded (opsOf 3 Tryz.f5) a.tmps) = true := by unfold Region.wanted; rw [hg]
  simp only [hw, if_true]
  refine Or.inl ?_
  unfold Oper.wp
  rw [hrun]
  refine Calls.mono hc ?_
  rintro e w' ⟨rfl, rfl⟩
  exact ⟨hF.put ho hd, (X.wd_set hi h1 h2).symm, inv_set hi h2 h3⟩
theorem r_fa (o : Oper) (ρ : Operand → Value) (w : World) (t k B : Nat) (h : o.op = Op.fieldAddr 24 (.tmp t) k) (hk : k < 6) (h1 : ρ (.tmp t) = .pointer (some ⟨B, 0, none⟩)) : (execOp ρ o).run Tryz.prog w = .ok (.value (.pointer (some ⟨B, k, none⟩))) w := by
  unfold execOp
  rw [h]
  rcases (show k = 0 ∨ k = 1 ∨ k = 2 ∨ k = 3 ∨ k = 4 ∨ k = 5 by omega) with rfl | rfl | rfl | rfl | rfl | rfl <;> simp [h1, go_sem]
theorem r_ld (o : Oper) (ρ : Operand → Value) (w : World) (t k B : Nat) (x : Int) (h : o.op = Op.load 3 (.tmp t)) (h1 : ρ (.tmp t) = .pointer (some ⟨B, k, none⟩)) (hc : w.cell? ⟨B, k, none⟩ = some (.int .i64 x)) : (execOp ρ o).run Tryz.prog w = .ok (.value (.int .i64 x)) w := by
  unfold execOp
  rw [h]
  simp [h1, hc, go_sem]
theorem r_add (o : Oper) (ρ : Operand → Value) (w : World) (s t : Nat) (x y : Int) (h : o.op = Op.binOp .add 3 (.tmp s) (.tmp t) 3) (h1 : ρ (.tmp s) = .int .i64 x) (h2 : ρ (.tmp t) = .int .i64 y) : (execOp ρ o).run Tryz.prog w = .ok (.value (.int .i64 (IntKind.i64.wrap (x + y)))) w := by
  unfold execOp
  rw [h]
  simp [h1, h2, go_sem]
theorem r_call (o : Oper) (ρ : Operand → Value) (w : World) (s t : Nat) (x y : Int) (h : o.op = Op.call { callee := .value (.func 14), args := #[.tmp s, .tmp t], argTypes := #[3, 3] }) (h0 : ρ (.func 14) = .func (.func 14) #[] #[]) (h1 : ρ (.tmp s) = .int .i64 x) (h2 : ρ (.tmp t) = .int .i64 y) : (execOp ρ o).run Tryz.prog w = .ok (.enter 14 #[.int .i64 x, .int .i64 y]) w := by
  unfold execOp
  rw [h]
  simp [h0, h1, h2, go_sem]
theorem r_bld (o : Oper) (ρ : Operand → Value) (w : World) (x0 x1 x2 x3 x4 x5 : Int) (h : o.op = Op.build 24 #[(0, .tmp 26), (1, .tmp 37), (2, .tmp 48), (3, .tmp 59), (4, .tmp 73), (5, .tmp 87)]) (h0 : ρ (.tmp 26) = .int .i64 x0) (h1 : ρ (.tmp 37) = .int .i64 x1) (h2 : ρ (.tmp 48) = .int .i64 x2) (h3 : ρ (.tmp 59) = .int .i64 x3) (h4 : ρ (.tmp 73) = .int .i64 x4) (h5 : ρ (.tmp 87) = .int .i64 x5) : (execOp ρ o).run Tryz.prog w = .ok (.value (affV x0 x1 x2 x3 x4 x5)) w := by
  unfold execOp
  rw [h]
  simp [h0, h1, h2, h3, h4, h5, go_sem]
theorem r_alloc (o : Oper) (ρ : Operand → Value) (w : World) (h : o.op = Op.alloc 24) : (execOp ρ o).run Tryz.prog w = .ok (.value (.pointer (some ⟨w.heap.size, 0, none⟩))) (w.alloc (.cells #[.int .i64 0, .int .i64 0, .int .i64 0, .int .i64 0, .int .i64 0, .int .i64 0] 24)) := by
  unfold execOp
  rw [h]
  simp [go_sem]
theorem r_store (o : Oper) (ρ : Operand → Value) (w : World) (x0 x1 x2 x3 x4 x5 : Int) (h : o.op = Op.store 24 (.tmp 6) (.tmp 88)) (h1 : ρ (.tmp 6) = .pointer (some ⟨w.heap.size, 0, none⟩)) (h2 : ρ (.tmp 88) = affV x0 x1 x2 x3 x4 x5) : (execOp ρ o).run Tryz.prog (w.alloc (.cells #[.int .i64 0, .int .i64 0, .int .i64 0, .int .i64 0, .int .i64 0, .int .i64 0] 24)) = .ok .skip (w.alloc (.cells #[.int .i64 x0, .int .i64 x1, .int .i64 x2, .int .i64 x3, .int .i64 x4, .int .i64 x5] 24)) := by
  unfold execOp
  rw [h]
  simp [h1, h2, go_sem]
/-- What is asked of each operation. -/
def MX.step (X : MX) (i : Nat) : Prop := ∀ (Q : Exit → Act → World → Prop) (listed : Array Bool) (a : Act) (w : World) (o : Oper), X.inv listed a w → listed.getD i true = false → (opsOf 3 Tryz.f5)[i]? = some o → (∀ e ∈ o.after, Region.binds .any e = true → listed.getD e.on false = true) → wpOp Tryz.prog (opsOf 3 Tryz.f5) Q i (fun a' w' => X.inv (listed.setIfInBounds i true) a' w') a w
theorem slot (X : MX) (ok : MXok X) {listed : Array Bool} {a : Act} {w : World} {i j d : Nat} {o : Oper} (hI : X.inv listed a w) (ho : (opsOf 3 Tryz.f5)[i]? = some o) (h2 : ∀ e ∈ o.after, Region.binds .any e = true → listed.getD e.on false = true)
    (hw : ((opsOf 3 Tryz.f5)[i]?).map (fun o => o.after.any fun e => decide (e.on = j) && Region.binds .any e) = some true) (hd : dstOf (opsOf 3 Tryz.f5) j = some d) (hs : d < 94) : a.eval (.tmp d) = X.val d :=
  hI.1.eval (waits ho hw h2) hd (by rw [ok.sz]; exact hs)
theorem MX.s0 (X : MX) (ok : MXok X) : X.step 0 := by
  intro Q listed a w o hI h1 ho h2
  obtain ⟨hd, hop, hg⟩ := fields (x := some 16) (y := Op.fieldAddr 24 (.tmp 2) 0) (z := none) (by kernel_rfl) ho
  exact st_val X hI ho hd hg (by decide) (by decide) (r_fa o a.eval _ 2 0 _ hop (by decide) ((hI.1.eval0 (by kernel_rfl)).trans ok.e2))
theorem MX.s1 (X : MX) (ok : MXok X) : X.step 1 := by
  intro Q listed a w o hI h1 ho h2
  obtain ⟨hd, hop, hg⟩ := fields (x := some 17) (y := Op.load 3 (.tmp 16)) (z := none) (by kernel_rfl) ho
  exact st_val X hI ho hd hg (by decide) (by decide) (r_ld o a.eval _ 16 0 _ _ hop (slot X ok hI ho h2 (j := 0) (d := 16) (by kernel_rfl) (by kernel_rfl) (by decide)) ((X.wd_cell listed _ _ (by have := ok.hB; omega)).trans ok.c0))
theorem MX.s2 (X : MX) (ok : MXok X) : X.step 2 := by
  intro Q listed a w o hI h1 ho h2
  obtain ⟨hd, hop, hg⟩ := fields (x := some 18) (y := Op.fieldAddr 24 (.tmp 3) 0) (z := none) (by kernel_rfl) ho
  exact st_val X hI ho hd hg (by decide) (by decide) (r_fa o a.eval _ 3 0 _ hop (by decide) ((hI.1.eval0 (by kernel_rfl)).trans ok.e3))
theorem MX.s3 (X : MX) (ok : MXok X) : X.step 3 := by
  intro Q listed a w o hI h1 ho h2
  obtain ⟨hd, hop, hg⟩ := fields (x := some 19) (y := Op.load 3 (.tmp 18)) (z := none) (by kernel_rfl) ho
  exact st_val X hI ho hd hg (by decide) (by decide) (r_ld o a.eval _ 18 0 _ _ hop (slot X ok hI ho h2 (j := 2) (d := 18) (by kernel_rfl) (by kernel_rfl) (by decide)) ((X.wd_cell listed _ _ (by have := ok.hB; omega)).trans ok.g0))
theorem MX.s4 (X : MX) (ok : MXok X) : X.step 4 := by
  intro Q listed a w o hI h1 ho h2
  obtain ⟨hd, hop, hg⟩ := fields (x := some 20) (y := Op.call { callee := .value (.func 14), args := #[.tmp 17, .tmp 19], argTypes := #[3, 3] }) (z := none) (by kernel_rfl) ho
  exact st_call X hI ho hd hg (by decide) (by decide) (r_call o a.eval _ 17 19 _ _ hop rfl (slot X ok hI ho h2 (j := 1) (d := 17) (by kernel_rfl) (by kernel_rfl) (by decide)) (slot X ok hI ho h2 (j := 3) (d := 19) (by kernel_rfl) (by kernel_rfl) (by decide))) (ok.call _ _ _)
theorem MX.s5 (X : MX) (ok : MXok X) : X.step 5 := by
  intro Q listed a w o hI h1 ho h2
  obtain ⟨hd, hop, hg⟩ := fields (x := some 21) (y := Op.fieldAddr 24 (.tmp 2) 2) (z := none) (by kernel_rfl) ho
  exact st_val X hI ho hd hg (by decide) (by decide) (r_fa o a.eval _ 2 2 _ hop (by decide) ((hI.1.eval0 (by kernel_rfl)).trans ok.e2))
theorem MX.s6 (X : MX) (ok : MXok X) : X.step 6 := by
  intro Q listed a w o hI h1 ho h2
  obtain ⟨hd, hop, hg⟩ := fields (x := some 22) (y := Op.load 3 (.tmp 21)) (z := none) (by kernel_rfl) ho
  exact st_val X hI ho hd hg (by decide) (by decide) (r_ld o a.eval _ 21 2 _ _ hop (slot X ok hI ho h2 (j := 5) (d := 21) (by kernel_rfl) (by kernel_rfl) (by decide)) ((X.wd_cell listed _ _ (by have := ok.hB; omega)).trans ok.c2))
theorem MX.s7 (X : MX) (ok : MXok X) : X.step 7 := by
  intro Q listed a w o hI h1 ho h2
  obtain ⟨hd, hop, hg⟩ := fields (x := some 23) (y := Op.fieldAddr 24 (.tmp 3) 1) (z := none) (by kernel_rfl) ho
  exact st_val X hI ho hd hg (by decide) (by decide) (r_fa o a.eval _ 3 1 _ hop (by decide) ((hI.1.eval0 (by kernel_rfl)).trans ok.e3))
theorem MX.s8 (X : MX) (ok : MXok X) : X.step 8 := by
  intro Q listed a w o hI h1 ho h2
  obtain ⟨hd, hop, hg⟩ := fields (x := some 24) (y := Op.load 3 (.tmp 23)) (z := none) (by kernel_rfl) ho
  exact st_val X hI ho hd hg (by decide) (by decide) (r_ld o a.eval _ 23 1 _ _ hop (slot X ok hI ho h2 (j := 7) (d := 23) (by kernel_rfl) (by kernel_rfl) (by decide)) ((X.wd_cell listed _ _ (by have := ok.hB; omega)).trans ok.g1))
theorem MX.s9 (X : MX) (ok : MXok X) : X.step 9 := by
  intro Q listed a w o hI h1 ho h2
  obtain ⟨hd, hop, hg⟩ := fields (x := some 25) (y := Op.call { callee := .value (.func 14), args := #[.tmp 22, .tmp 24], argTypes := #[3, 3] }) (z := none) (by kernel_rfl) ho
  exact st_call X hI ho hd hg (by decide) (by decide) (r_call o a.eval _ 22 24 _ _ hop rfl (slot X ok hI ho h2 (j := 6) (d := 22) (by kernel_rfl) (by kernel_rfl) (by decide)) (slot X ok hI ho h2 (j := 8) (d := 24) (by kernel_rfl) (by kernel_rfl) (by decide))) (ok.call _ _ _)
theorem MX.s10 (X : MX) (ok : MXok X) : X.step 10 := by
  intro Q listed a w o hI h1 ho h2
  obtain ⟨hd, hop, hg⟩ := fields (x := some 26) (y := Op.binOp .add 3 (.tmp 20) (.tmp 25) 3) (z := none) (by kernel_rfl) ho
  exact st_val X hI ho hd hg (by decide) (by decide) (r_add o a.eval _ 20 25 _ _ hop (slot X ok hI ho h2 (j := 4) (d := 20) (by kernel_rfl) (by kernel_rfl) (by decide)) (slot X ok hI ho h2 (j := 9) (d := 25) (by kernel_rfl) (by kernel_rfl) (by decide)))
theorem MX.s11 (X : MX) (ok : MXok X) : X.step 11 := by
  intro Q listed a w o hI h1 ho h2
  obtain ⟨hd, hop, hg⟩ := fields (x := some 27) (y := Op.fieldAddr 24 (.tmp 2) 1) (z := none) (by kernel_rfl) ho
  exact st_val X hI ho hd hg (by decide) (by decide) (r_fa o a.eval _ 2 1 _ hop (by decide) ((hI.1.eval0 (by kernel_rfl)).trans ok.e2))
theorem MX.s12 (X : MX) (ok : MXok X) : X.step 12 := by
  intro Q listed a w o hI h1 ho h2
  obtain ⟨hd, hop, hg⟩ := fields (x := some 28) (y := Op.load 3 (.tmp 27)) (z := none) (by kernel_rfl) ho
  exact st_val X hI ho hd hg (by decide) (by decide) (r_ld o a.eval _ 27 1 _ _ hop (slot X ok hI ho h2 (j := 11) (d := 27) (by kernel_rfl) (by kernel_rfl) (by decide)) ((X.wd_cell listed _ _ (by have := ok.hB; omega)).trans ok.c1))
theorem MX.s13 (X : MX) (ok : MXok X) : X.step 13 := by
  intro Q listed a w o hI h1 ho h2
  obtain ⟨hd, hop, hg⟩ := fields (x := some 29) (y := Op.fieldAddr 24 (.tmp 3) 0) (z := none) (by kernel_rfl) ho
  exact st_val X hI ho hd hg (by decide) (by decide) (r_fa o a.eval _ 3 0 _ hop (by decide) ((hI.1.eval0 (by kernel_rfl)).trans ok.e3))
theorem MX.s14 (X : MX) (ok : MXok X) : X.step 14 := by
  intro Q listed a w o hI h1 ho h2
  obtain ⟨hd, hop, hg⟩ := fields (x := some 30) (y := Op.load 3 (.tmp 29)) (z := none) (by kernel_rfl) ho
  exact st_val X hI ho hd hg (by decide) (by decide) (r_ld o a.eval _ 29 0 _ _ hop (slot X ok hI ho h2 (j := 13) (d := 29) (by kernel_rfl) (by kernel_rfl) (by decide)) ((X.wd_cell listed _ _ (by have := ok.hB; omega)).trans ok.g0))
theorem MX.s15 (X : MX) (ok : MXok X) : X.step 15 := by
  intro Q listed a w o hI h1 ho h2
  obtain ⟨hd, hop, hg⟩ := fields (x := some 31) (y := Op.call { callee := .value (.func 14), args := #[.tmp 28, .tmp 30], argTypes := #[3, 3] }) (z := none) (by kernel_rfl) ho
  exact st_call X hI ho hd hg (by decide) (by decide) (r_call o a.eval _ 28 30 _ _ hop rfl (slot X ok hI ho h2 (j := 12) (d := 28) (by kernel_rfl) (by kernel_rfl) (by decide)) (slot X ok hI ho h2 (j := 14) (d := 30) (by kernel_rfl) (by kernel_rfl) (by decide))) (ok.call _ _ _)
theorem MX.s16 (X : MX) (ok : MXok X) : X.step 16 := by
  intro Q listed a w o hI h1 ho h2
  obtain ⟨hd, hop, hg⟩ := fields (x := some 32) (y := Op.fieldAddr 24 (.tmp 2) 3) (z := none) (by kernel_rfl) ho
  exact st_val X hI ho hd hg (by decide) (by decide) (r_fa o a.eval _ 2 3 _ hop (by decide) ((hI.1.eval0 (by kernel_rfl)).trans ok.e2))
theorem MX.s17 (X : MX) (ok : MXok X) : X.step 17 := by
  intro Q listed a w o hI h1 ho h2
  obtain ⟨hd, hop, hg⟩ := fields (x := some 33) (y := Op.load 3 (.tmp 32)) (z := none) (by kernel_rfl) ho
  exact st_val X hI ho hd hg (by decide) (by decide) (r_ld o a.eval _ 32 3 _ _ hop (slot X ok hI ho h2 (j := 16) (d := 32) (by kernel_rfl) (by kernel_rfl) (by decide)) ((X.wd_cell listed _ _ (by have := ok.hB; omega)).trans ok.c3))
theorem MX.s18 (X : MX) (ok : MXok X) : X.step 18 := by
  intro Q listed a w o hI h1 ho h2
  obtain ⟨hd, hop, hg⟩ := fields (x := some 34) (y := Op.fieldAddr 24 (.tmp 3) 1) (z := none) (by kernel_rfl) ho
  exact st_val X hI ho hd hg (by decide) (by decide) (r_fa o a.eval _ 3 1 _ hop (by decide) ((hI.1.eval0 (by kernel_rfl)).trans ok.e3))
theorem MX.s19 (X : MX) (ok : MXok X) : X.step 19 := by
  intro Q listed a w o hI h1 ho h2
  obtain ⟨hd, hop, hg⟩ := fields (x := some 35) (y := Op.load 3 (.tmp 34)) (z := none) (by kernel_rfl) ho
  exact st_val X hI ho hd hg (by decide) (by decide) (r_ld o a.eval _ 34 1 _ _ hop (slot X ok hI ho h2 (j := 18) (d := 34) (by kernel_rfl) (by kernel_rfl) (by decide)) ((X.wd_cell listed _ _ (by have := ok.hB; omega)).trans ok.g1))
theorem MX.s20 (X : MX) (ok : MXok X) : X.step 20 := by
  intro Q listed a w o hI h1 ho h2
  obtain ⟨hd, hop, hg⟩ := fields (x := some 36) (y := Op.call { callee := .value (.func 14), args := #[.tmp 33, .tmp 35], argTypes := #[3, 3] }) (z := none) (by kernel_rfl) ho
  exact st_call X hI ho hd hg (by decide) (by decide) (r_call o a.eval _ 33 35 _ _ hop rfl (slot X ok hI ho h2 (j := 17) (d := 33) (by kernel_rfl) (by kernel_rfl) (by decide)) (slot X ok hI ho h2 (j := 19) (d := 35) (by kernel_rfl) (by kernel_rfl) (by decide))) (ok.call _ _ _)
theorem MX.s21 (X : MX) (ok : MXok X) : X.step 21 := by
  intro Q listed a w o hI h1 ho h2
  obtain ⟨hd, hop, hg⟩ := fields (x := some 37) (y := Op.binOp .add 3 (.tmp 31) (.tmp 36) 3) (z := none) (by kernel_rfl) ho
  exact st_val X hI ho hd hg (by decide) (by decide) (r_add o a.eval _ 31 36 _ _ hop (slot X ok hI ho h2 (j := 15) (d := 31) (by kernel_rfl) (by kernel_rfl) (by decide)) (slot X ok hI ho h2 (j := 20) (d := 36) (by kernel_rfl) (by kernel_rfl) (by decide)))
theorem MX.s22 (X : MX) (ok : MXok X) : X.step 22 := by
  intro Q listed a w o hI h1 ho h2
  obtain ⟨hd, hop, hg⟩ := fields (x := some 38) (y := Op.fieldAddr 24 (.tmp 2) 0) (z := none) (by kernel_rfl) ho
  exact st_val X hI ho hd hg (by decide) (by decide) (r_fa o a.eval _ 2 0 _ hop (by decide) ((hI.1.eval0 (by kernel_rfl)).trans ok.e2))
theorem MX.s23 (X : MX) (ok : MXok X) : X.step 23 := by
  intro Q listed a w o hI h1 ho h2
  obtain ⟨hd, hop, hg⟩ := fields (x := some 39) (y := Op.load 3 (.tmp 38)) (z := none) (by kernel_rfl) ho
  exact st_val X hI ho hd hg (by decide) (by decide) (r_ld o a.eval _ 38 0 _ _ hop (slot X ok hI ho h2 (j := 22) (d := 38) (by kernel_rfl) (by kernel_rfl) (by decide)) ((X.wd_cell listed _ _ (by have := ok.hB; omega)).trans ok.c0))
theorem MX.s24 (X : MX) (ok : MXok X) : X.step 24 := by
  intro Q listed a w o hI h1 ho h2
  obtain ⟨hd, hop, hg⟩ := fields (x := some 40) (y := Op.fieldAddr 24 (.tmp 3) 2) (z := none) (by kernel_rfl) ho
  exact st_val X hI ho hd hg (by decide) (by decide) (r_fa o a.eval _ 3 2 _ hop (by decide) ((hI.1.eval0 (by kernel_rfl)).trans ok.e3))
theorem MX.s25 (X : MX) (ok : MXok X) : X.step 25 := by
  intro Q listed a w o hI h1 ho h2
  obtain ⟨hd, hop, hg⟩ := fields (x := some 41) (y := Op.load 3 (.tmp 40)) (z := none) (by kernel_rfl) ho
  exact st_val X hI ho hd hg (by decide) (by decide) (r_ld o a.eval _ 40 2 _ _ hop (slot X ok hI ho h2 (j := 24) (d := 40) (by kernel_rfl) (by kernel_rfl) (by decide)) ((X.wd_cell listed _ _ (by have := ok.hB; omega)).trans ok.g2))
theorem MX.s26 (X : MX) (ok : MXok X) : X.step 26 := by
  intro Q listed a w o hI h1 ho h2
  obtain ⟨hd, hop, hg⟩ := fields (x := some 42) (y := Op.call { callee := .value (.func 14), args := #[.tmp 39, .tmp 41], argTypes := #[3, 3] }) (z := none) (by kernel_rfl) ho
  exact st_call X hI ho hd hg (by decide) (by decide) (r_call o a.eval _ 39 41 _ _ hop rfl (slot X ok hI ho h2 (j := 23) (d := 39) (by kernel_rfl) (by kernel_rfl) (by decide)) (slot X ok hI ho h2 (j := 25) (d := 41) (by kernel_rfl) (by kernel_rfl) (by decide))) (ok.call _ _ _)
theorem MX.s27 (X : MX) (ok : MXok X) : X.step 27 := by
  intro Q listed a w o hI h1 ho h2
  obtain ⟨hd, hop, hg⟩ := fields (x := some 43) (y := Op.fieldAddr 24 (.tmp 2) 2) (z := none) (by kernel_rfl) ho
  exact st_val X hI ho hd hg (by decide) (by decide) (r_fa o a.eval _ 2 2 _ hop (by decide) ((hI.1.eval0 (by kernel_rfl)).trans ok.e2))
theorem MX.s28 (X : MX) (ok : MXok X) : X.step 28 := by
  intro Q listed a w o hI h1 ho h2
  obtain ⟨hd, hop, hg⟩ := fields (x := some 44) (y := Op.load 3 (.tmp 43)) (z := none) (by kernel_rfl) ho
  exact st_val X hI ho hd hg (by decide) (by decide) (r_ld o a.eval _ 43 2 _ _ hop (slot X ok hI ho h2 (j := 27) (d := 43) (by kernel_rfl) (by kernel_rfl) (by decide)) ((X.wd_cell listed _ _ (by have := ok.hB; omega)).trans ok.c2))
theorem MX.s29 (X : MX) (ok : MXok X) : X.step 29 := by
  intro Q listed a w o hI h1 ho h2
  obtain ⟨hd, hop, hg⟩ := fields (x := some 45) (y := Op.fieldAddr 24 (.tmp 3) 3) (z := none) (by kernel_rfl) ho
  exact st_val X hI ho hd hg (by decide) (by decide) (r_fa o a.eval _ 3 3 _ hop (by decide) ((hI.1.eval0 (by kernel_rfl)).trans ok.e3))
theorem MX.s30 (X : MX) (ok : MXok X) : X.step 30 := by
  intro Q listed a w o hI h1 ho h2
  obtain ⟨hd, hop, hg⟩ := fields (x := some 46) (y := Op.load 3 (.tmp 45)) (z := none) (by kernel_rfl) ho
  exact st_val X hI ho hd hg (by decide) (by decide) (r_ld o a.eval _ 45 3 _ _ hop (slot X ok hI ho h2 (j := 29) (d := 45) (by kernel_rfl) (by kernel_rfl) (by decide)) ((X.wd_cell listed _ _ (by have := ok.hB; omega)).trans ok.g3))
theorem MX.s31 (X : MX) (ok : MXok X) : X.step 31 := by
  intro Q listed a w o hI h1 ho h2
  obtain ⟨hd, hop, hg⟩ := fields (x := some 47) (y := Op.call { callee := .value (.func 14), args := #[.tmp 44, .tmp 46], argTypes := #[3, 3] }) (z := none) (by kernel_rfl) ho
  exact st_call X hI ho hd hg (by decide) (by decide) (r_call o a.eval _ 44 46 _ _ hop rfl (slot X ok hI ho h2 (j := 28) (d := 44) (by kernel_rfl) (by kernel_rfl) (by decide)) (slot X ok hI ho h2 (j := 30) (d := 46) (by kernel_rfl) (by kernel_rfl) (by decide))) (ok.call _ _ _)
theorem MX.s32 (X : MX) (ok : MXok X) : X.step 32 := by
  intro Q listed a w o hI h1 ho h2
  obtain ⟨hd, hop, hg⟩ := fields (x := some 48) (y := Op.binOp .add 3 (.tmp 42) (.tmp 47) 3) (z := none) (by kernel_rfl) ho
  exact st_val X hI ho hd hg (by decide) (by decide) (r_add o a.eval _ 42 47 _ _ hop (slot X ok hI ho h2 (j := 26) (d := 42) (by kernel_rfl) (by kernel_rfl) (by decide)) (slot X ok hI ho h2 (j := 31) (d := 47) (by kernel_rfl) (by kernel_rfl) (by decide)))
theorem MX.s33 (X : MX) (ok : MXok X) : X.step 33 := by
  intro Q listed a w o hI h1 ho h2
  obtain ⟨hd, hop, hg⟩ := fields (x := some 49) (y := Op.fieldAddr 24 (.tmp 2) 1) (z := none) (by kernel_rfl) ho
  exact st_val X hI ho hd hg (by decide) (by decide) (r_fa o a.eval _ 2 1 _ hop (by decide) ((hI.1.eval0 (by kernel_rfl)).trans ok.e2))
theorem MX.s34 (X : MX) (ok : MXok X) : X.step 34 := by
  intro Q listed a w o hI h1 ho h2
  obtain ⟨hd, hop, hg⟩ := fields (x := some 50) (y := Op.load 3 (.tmp 49)) (z := none) (by kernel_rfl) ho
  exact st_val X hI ho hd hg (by decide) (by decide) (r_ld o a.eval _ 49 1 _ _ hop (slot X ok hI ho h2 (j := 33) (d := 49) (by kernel_rfl) (by kernel_rfl) (by decide)) ((X.wd_cell listed _ _ (by have := ok.hB; omega)).trans ok.c1))
theorem MX.s35 (X : MX) (ok : MXok X) : X.step 35 := by
  intro Q listed a w o hI h1 ho h2
  obtain ⟨hd, hop, hg⟩ := fields (x := some 51) (y := Op.fieldAddr 24 (.tmp 3) 2) (z := none) (by kernel_rfl) ho
  exact st_val X hI ho hd hg (by decide) (by decide) (r_fa o a.eval _ 3 2 _ hop (by decide) ((hI.1.eval0 (by kernel_rfl)).trans ok.e3))
theorem MX.s36 (X : MX) (ok : MXok X) : X.step 36 := by
  intro Q listed a w o hI h1 ho h2
  obtain ⟨hd, hop, hg⟩ := fields (x := some 52) (y := Op.load 3 (.tmp 51)) (z := none) (by kernel_rfl) ho
  exact st_val X hI ho hd hg (by decide) (by decide) (r_ld o a.eval _ 51 2 _ _ hop (slot X ok hI ho h2 (j := 35) (d := 51) (by kernel_rfl) (by kernel_rfl) (by decide)) ((X.wd_cell listed _ _ (by have := ok.hB; omega)).trans ok.g2))
theorem MX.s37 (X : MX) (ok : MXok X) : X.step 37 := by
  intro Q listed a w o hI h1 ho h2
  obtain ⟨hd, hop, hg⟩ := fields (x := some 53) (y := Op.call { callee := .value (.func 14), args := #[.tmp 50, .tmp 52], argTypes := #[3, 3] }) (z := none) (by kernel_rfl) ho
  exact st_call X hI ho hd hg (by decide) (by decide) (r_call o a.eval _ 50 52 _ _ hop rfl (slot X ok hI ho h2 (j := 34) (d := 50) (by kernel_rfl) (by kernel_rfl) (by decide)) (slot X ok hI ho h2 (j := 36) (d := 52) (by kernel_rfl) (by kernel_rfl) (by decide))) (ok.call _ _ _)
theorem MX.s38 (X : MX) (ok : MXok X) : X.step 38 := by
  intro Q listed a w o hI h1 ho h2
  obtain ⟨hd, hop, hg⟩ := fields (x := some 54) (y := Op.fieldAddr 24 (.tmp 2) 3) (z := none) (by kernel_rfl) ho
  exact st_val X hI ho hd hg (by decide) (by decide) (r_fa o a.eval _ 2 3 _ hop (by decide) ((hI.1.eval0 (by kernel_rfl)).trans ok.e2))
theorem MX.s39 (X : MX) (ok : MXok X) : X.step 39 := by
  intro Q listed a w o hI h1 ho h2
  obtain ⟨hd, hop, hg⟩ := fields (x := some 55) (y := Op.load 3 (.tmp 54)) (z := none) (by kernel_rfl) ho
  exact st_val X hI ho hd hg (by decide) (by decide) (r_ld o a.eval _ 54 3 _ _ hop (slot X ok hI ho h2 (j := 38) (d := 54) (by kernel_rfl) (by kernel_rfl) (by decide)) ((X.wd_cell listed _ _ (by have := ok.hB; omega)).trans ok.c3))
theorem MX.s40 (X : MX) (ok : MXok X) : X.step 40 := by
  intro Q listed a w o hI h1 ho h2
  obtain ⟨hd, hop, hg⟩ := fields (x := some 56) (y := Op.fieldAddr 24 (.tmp 3) 3) (z := none) (by kernel_rfl) ho
  exact st_val X hI ho hd hg (by decide) (by decide) (r_fa o a.eval _ 3 3 _ hop (by decide) ((hI.1.eval0 (by kernel_rfl)).trans ok.e3))
theorem MX.s41 (X : MX) (ok : MXok X) : X.step 41 := by
  intro Q listed a w o hI h1 ho h2
  obtain ⟨hd, hop, hg⟩ := fields (x := some 57) (y := Op.load 3 (.tmp 56)) (z := none) (by kernel_rfl) ho
  exact st_val X hI ho hd hg (by decide) (by decide) (r_ld o a.eval _ 56 3 _ _ hop (slot X ok hI ho h2 (j := 40) (d := 56) (by kernel_rfl) (by kernel_rfl) (by decide)) ((X.wd_cell listed _ _ (by have := ok.hB; omega)).trans ok.g3))
theorem MX.s42 (X : MX) (ok : MXok X) : X.step 42 := by
  intro Q listed a w o hI h1 ho h2
  obtain ⟨hd, hop, hg⟩ := fields (x := some 58) (y := Op.call { callee := .value (.func 14), args := #[.tmp 55, .tmp 57], argTypes := #[3, 3] }) (z := none) (by kernel_rfl) ho
  exact st_call X hI ho hd hg (by decide) (by decide) (r_call o a.eval _ 55 57 _ _ hop rfl (slot X ok hI ho h2 (j := 39) (d := 55) (by kernel_rfl) (by kernel_rfl) (by decide)) (slot X ok hI ho h2 (j := 41) (d := 57) (by kernel_rfl) (by kernel_rfl) (by decide))) (ok.call _ _ _)
theorem MX.s43 (X : MX) (ok : MXok X) : X.step 43 := by
  intro Q listed a w o hI h1 ho h2
  obtain ⟨hd, hop, hg⟩ := fields (x := some 59) (y := Op.binOp .add 3 (.tmp 53) (.tmp 58) 3) (z := none) (by kernel_rfl) ho
  exact st_val X hI ho hd hg (by decide) (by decide) (r_add o a.eval _ 53 58 _ _ hop (slot X ok hI ho h2 (j := 37) (d := 53) (by kernel_rfl) (by kernel_rfl) (by decide)) (slot X ok hI ho h2 (j := 42) (d := 58) (by kernel_rfl) (by kernel_rfl) (by decide)))
theorem MX.s44 (X : MX) (ok : MXok X) : X.step 44 := by
  intro Q listed a w o hI h1 ho h2
  obtain ⟨hd, hop, hg⟩ := fields (x := some 60) (y := Op.fieldAddr 24 (.tmp 2) 0) (z := none) (by kernel_rfl) ho
  exact st_val X hI ho hd hg (by decide) (by decide) (r_fa o a.eval _ 2 0 _ hop (by decide) ((hI.1.eval0 (by kernel_rfl)).trans ok.e2))
theorem MX.s45 (X : MX) (ok : MXok X) : X.step 45 := by
  intro Q listed a w o hI h1 ho h2
  obtain ⟨hd, hop, hg⟩ := fields (x := some 61) (y := Op.load 3 (.tmp 60)) (z := none) (by kernel_rfl) ho
  exact st_val X hI ho hd hg (by decide) (by decide) (r_ld o a.eval _ 60 0 _ _ hop (slot X ok hI ho h2 (j := 44) (d := 60) (by kernel_rfl) (by kernel_rfl) (by decide)) ((X.wd_cell listed _ _ (by have := ok.hB; omega)).trans ok.c0))
theorem MX.s46 (X : MX) (ok : MXok X) : X.step 46 := by
  intro Q listed a w o hI h1 ho h2
  obtain ⟨hd, hop, hg⟩ := fields (x := some 62) (y := Op.fieldAddr 24 (.tmp 3) 4) (z := none) (by kernel_rfl) ho
  exact st_val X hI ho hd hg (by decide) (by decide) (r_fa o a.eval _ 3 4 _ hop (by decide) ((hI.1.eval0 (by kernel_rfl)).trans ok.e3))
theorem MX.s47 (X : MX) (ok : MXok X) : X.step 47 := by
  intro Q listed a w o hI h1 ho h2
  obtain ⟨hd, hop, hg⟩ := fields (x := some 63) (y := Op.load 3 (.tmp 62)) (z := none) (by kernel_rfl) ho
  exact st_val X hI ho hd hg (by decide) (by decide) (r_ld o a.eval _ 62 4 _ _ hop (slot X ok hI ho h2 (j := 46) (d := 62) (by kernel_rfl) (by kernel_rfl) (by decide)) ((X.wd_cell listed _ _ (by have := ok.hB; omega)).trans ok.g4))
theorem MX.s48 (X : MX) (ok : MXok X) : X.step 48 := by
  intro Q listed a w o hI h1 ho h2
  obtain ⟨hd, hop, hg⟩ := fields (x := some 64) (y := Op.call { callee := .value (.func 14), args := #[.tmp 61, .tmp 63], argTypes := #[3, 3] }) (z := none) (by kernel_rfl) ho
  exact st_call X hI ho hd hg (by decide) (by decide) (r_call o a.eval _ 61 63 _ _ hop rfl (slot X ok hI ho h2 (j := 45) (d := 61) (by kernel_rfl) (by kernel_rfl) (by decide)) (slot X ok hI ho h2 (j := 47) (d := 63) (by kernel_rfl) (by kernel_rfl) (by decide))) (ok.call _ _ _)
theorem MX.s49 (X : MX) (ok : MXok X) : X.step 49 := by
  intro Q listed a w o hI h1 ho h2
  obtain ⟨hd, hop, hg⟩ := fields (x := some 65) (y := Op.fieldAddr 24 (.tmp 2) 2) (z := none) (by kernel_rfl) ho
  exact st_val X hI ho hd hg (by decide) (by decide) (r_fa o a.eval _ 2 2 _ hop (by decide) ((hI.1.eval0 (by kernel_rfl)).trans ok.e2))
theorem MX.s50 (X : MX) (ok : MXok X) : X.step 50 := by
  intro Q listed a w o hI h1 ho h2
  obtain ⟨hd, hop, hg⟩ := fields (x := some 66) (y := Op.load 3 (.tmp 65)) (z := none) (by kernel_rfl) ho
  exact st_val X hI ho hd hg (by decide) (by decide) (r_ld o a.eval _ 65 2 _ _ hop (slot X ok hI ho h2 (j := 49) (d := 65) (by kernel_rfl) (by kernel_rfl) (by decide)) ((X.wd_cell listed _ _ (by have := ok.hB; omega)).trans ok.c2))
theorem MX.s51 (X : MX) (ok : MXok X) : X.step 51 := by
  intro Q listed a w o hI h1 ho h2
  obtain ⟨hd, hop, hg⟩ := fields (x := some 67) (y := Op.fieldAddr 24 (.tmp 3) 5) (z := none) (by kernel_rfl) ho
  exact st_val X hI ho hd hg (by decide) (by decide) (r_fa o a.eval _ 3 5 _ hop (by decide) ((hI.1.eval0 (by kernel_rfl)).trans ok.e3))
theorem MX.s52 (X : MX) (ok : MXok X) : X.step 52 := by
  intro Q listed a w o hI h1 ho h2
  obtain ⟨hd, hop, hg⟩ := fields (x := some 68) (y := Op.load 3 (.tmp 67)) (z := none) (by kernel_rfl) ho
  exact st_val X hI ho hd hg (by decide) (by decide) (r_ld o a.eval _ 67 5 _ _ hop (slot X ok hI ho h2 (j := 51) (d := 67) (by kernel_rfl) (by kernel_rfl) (by decide)) ((X.wd_cell listed _ _ (by have := ok.hB; omega)).trans ok.g5))
theorem MX.s53 (X : MX) (ok : MXok X) : X.step 53 := by
  intro Q listed a w o hI h1 ho h2
  obtain ⟨hd, hop, hg⟩ := fields (x := some 69) (y := Op.call { callee := .value (.func 14), args := #[.tmp 66, .tmp 68], argTypes := #[3, 3] }) (z := none) (by kernel_rfl) ho
  exact st_call X hI ho hd hg (by decide) (by decide) (r_call o a.eval _ 66 68 _ _ hop rfl (slot X ok hI ho h2 (j := 50) (d := 66) (by kernel_rfl) (by kernel_rfl) (by decide)) (slot X ok hI ho h2 (j := 52) (d := 68) (by kernel_rfl) (by kernel_rfl) (by decide))) (ok.call _ _ _)
theorem MX.s54 (X : MX) (ok : MXok X) : X.step 54 := by
  intro Q listed a w o hI h1 ho h2
  obtain ⟨hd, hop, hg⟩ := fields (x := some 70) (y := Op.binOp .add 3 (.tmp 64) (.tmp 69) 3) (z := none) (by kernel_rfl) ho
  exact st_val X hI ho hd hg (by decide) (by decide) (r_add o a.eval _ 64 69 _ _ hop (slot X ok hI ho h2 (j := 48) (d := 64) (by kernel_rfl) (by kernel_rfl) (by decide)) (slot X ok hI ho h2 (j := 53) (d := 69) (by kernel_rfl) (by kernel_rfl) (by decide)))
theorem MX.s55 (X : MX) (ok : MXok X) : X.step 55 := by
  intro Q listed a w o hI h1 ho h2
  obtain ⟨hd, hop, hg⟩ := fields (x := some 71) (y := Op.fieldAddr 24 (.tmp 2) 4) (z := none) (by kernel_rfl) ho
  exact st_val X hI ho hd hg (by decide) (by decide) (r_fa o a.eval _ 2 4 _ hop (by decide) ((hI.1.eval0 (by kernel_rfl)).trans ok.e2))
theorem MX.s56 (X : MX) (ok : MXok X) : X.step 56 := by
  intro Q listed a w o hI h1 ho h2
  obtain ⟨hd, hop, hg⟩ := fields (x := some 72) (y := Op.load 3 (.tmp 71)) (z := none) (by kernel_rfl) ho
  exact st_val X hI ho hd hg (by decide) (by decide) (r_ld o a.eval _ 71 4 _ _ hop (slot X ok hI ho h2 (j := 55) (d := 71) (by kernel_rfl) (by kernel_rfl) (by decide)) ((X.wd_cell listed _ _ (by have := ok.hB; omega)).trans ok.c4))
theorem MX.s57 (X : MX) (ok : MXok X) : X.step 57 := by
  intro Q listed a w o hI h1 ho h2
  obtain ⟨hd, hop, hg⟩ := fields (x := some 73) (y := Op.binOp .add 3 (.tmp 70) (.tmp 72) 3) (z := none) (by kernel_rfl) ho
  exact st_val X hI ho hd hg (by decide) (by decide) (r_add o a.eval _ 70 72 _ _ hop (slot X ok hI ho h2 (j := 54) (d := 70) (by kernel_rfl) (by kernel_rfl) (by decide)) (slot X ok hI ho h2 (j := 56) (d := 72) (by kernel_rfl) (by kernel_rfl) (by decide)))
theorem MX.s58 (X : MX) (ok : MXok X) : X.step 58 := by
  intro Q listed a w o hI h1 ho h2
  obtain ⟨hd, hop, hg⟩ := fields (x := some 74) (y := Op.fieldAddr 24 (.tmp 2) 1) (z := none) (by kernel_rfl) ho
  exact st_val X hI ho hd hg (by decide) (by decide) (r_fa o a.eval _ 2 1 _ hop (by decide) ((hI.1.eval0 (by kernel_rfl)).trans ok.e2))
theorem MX.s59 (X : MX) (ok : MXok X) : X.step 59 := by
  intro Q listed a w o hI h1 ho h2
  obtain ⟨hd, hop, hg⟩ := fields (x := some 75) (y := Op.load 3 (.tmp 74)) (z := none) (by kernel_rfl) ho
  exact st_val X hI ho hd hg (by decide) (by decide) (r_ld o a.eval _ 74 1 _ _ hop (slot X ok hI ho h2 (j := 58) (d := 74) (by kernel_rfl) (by kernel_rfl) (by decide)) ((X.wd_cell listed _ _ (by have := ok.hB; omega)).trans ok.c1))
theorem MX.s60 (X : MX) (ok : MXok X) : X.step 60 := by
  intro Q listed a w o hI h1 ho h2
  obtain ⟨hd, hop, hg⟩ := fields (x := some 76) (y := Op.fieldAddr 24 (.tmp 3) 4) (z := none) (by kernel_rfl) ho
  exact st_val X hI ho hd hg (by decide) (by decide) (r_fa o a.eval _ 3 4 _ hop (by decide) ((hI.1.eval0 (by kernel_rfl)).trans ok.e3))
theorem MX.s61 (X : MX) (ok : MXok X) : X.step 61 := by
  intro Q listed a w o hI h1 ho h2
  obtain ⟨hd, hop, hg⟩ := fields (x := some 77) (y := Op.load 3 (.tmp 76)) (z := none) (by kernel_rfl) ho
  exact st_val X hI ho hd hg (by decide) (by decide) (r_ld o a.eval _ 76 4 _ _ hop (slot X ok hI ho h2 (j := 60) (d := 76) (by kernel_rfl) (by kernel_rfl) (by decide)) ((X.wd_cell listed _ _ (by have := ok.hB; omega)).trans ok.g4))
theorem MX.s62 (X : MX) (ok : MXok X) : X.step 62 := by
  intro Q listed a w o hI h1 ho h2
  obtain ⟨hd, hop, hg⟩ := fields (x := some 78) (y := Op.call { callee := .value (.func 14), args := #[.tmp 75, .tmp 77], argTypes := #[3, 3] }) (z := none) (by kernel_rfl) ho
  exact st_call X hI ho hd hg (by decide) (by decide) (r_call o a.eval _ 75 77 _ _ hop rfl (slot X ok hI ho h2 (j := 59) (d := 75) (by kernel_rfl) (by kernel_rfl) (by decide)) (slot X ok hI ho h2 (j := 61) (d := 77) (by kernel_rfl) (by kernel_rfl) (by decide))) (ok.call _ _ _)
theorem MX.s63 (X : MX) (ok : MXok X) : X.step 63 := by
  intro Q listed a w o hI h1 ho h2
  obtain ⟨hd, hop, hg⟩ := fields (x := some 79) (y := Op.fieldAddr 24 (.tmp 2) 3) (z := none) (by kernel_rfl) ho
  exact st_val X hI ho hd hg (by decide) (by decide) (r_fa o a.eval _ 2 3 _ hop (by decide) ((hI.1.eval0 (by kernel_rfl)).trans ok.e2))
theorem MX.s64 (X : MX) (ok : MXok X) : X.step 64 := by
  intro Q listed a w o hI h1 ho h2
  obtain ⟨hd, hop, hg⟩ := fields (x := some 80) (y := Op.load 3 (.tmp 79)) (z := none) (by kernel_rfl) ho
  exact st_val X hI ho hd hg (by decide) (by decide) (r_ld o a.eval _ 79 3 _ _ hop (slot X ok hI ho h2 (j := 63) (d := 79) (by kernel_rfl) (by kernel_rfl) (by decide)) ((X.wd_cell listed _ _ (by have := ok.hB; omega)).trans ok.c3))
theorem MX.s65 (X : MX) (ok : MXok X) : X.step 65 := by
  intro Q listed a w o hI h1 ho h2
  obtain ⟨hd, hop, hg⟩ := fields (x := some 81) (y := Op.fieldAddr 24 (.tmp 3) 5) (z := none) (by kernel_rfl) ho
  exact st_val X hI ho hd hg (by decide) (by decide) (r_fa o a.eval _ 3 5 _ hop (by decide) ((hI.1.eval0 (by kernel_rfl)).trans ok.e3))
theorem MX.s66 (X : MX) (ok : MXok X) : X.step 66 := by
  intro Q listed a w o hI h1 ho h2
  obtain ⟨hd, hop, hg⟩ := fields (x := some 82) (y := Op.load 3 (.tmp 81)) (z := none) (by kernel_rfl) ho
  exact st_val X hI ho hd hg (by decide) (by decide) (r_ld o a.eval _ 81 5 _ _ hop (slot X ok hI ho h2 (j := 65) (d := 81) (by kernel_rfl) (by kernel_rfl) (by decide)) ((X.wd_cell listed _ _ (by have := ok.hB; omega)).trans ok.g5))
theorem MX.s67 (X : MX) (ok : MXok X) : X.step 67 := by
  intro Q listed a w o hI h1 ho h2
  obtain ⟨hd, hop, hg⟩ := fields (x := some 83) (y := Op.call { callee := .value (.func 14), args := #[.tmp 80, .tmp 82], argTypes := #[3, 3] }) (z := none) (by kernel_rfl) ho
  exact st_call X hI ho hd hg (by decide) (by decide) (r_call o a.eval _ 80 82 _ _ hop rfl (slot X ok hI ho h2 (j := 64) (d := 80) (by kernel_rfl) (by kernel_rfl) (by decide)) (slot X ok hI ho h2 (j := 66) (d := 82) (by kernel_rfl) (by kernel_rfl) (by decide))) (ok.call _ _ _)
theorem MX.s68 (X : MX) (ok : MXok X) : X.step 68 := by
  intro Q listed a w o hI h1 ho h2
  obtain ⟨hd, hop, hg⟩ := fields (x := some 84) (y := Op.binOp .add 3 (.tmp 78) (.tmp 83) 3) (z := none) (by kernel_rfl) ho
  exact st_val X hI ho hd hg (by decide) (by decide) (r_add o a.eval _ 78 83 _ _ hop (slot X ok hI ho h2 (j := 62) (d := 78) (by kernel_rfl) (by kernel_rfl) (by decide)) (slot X ok hI ho h2 (j := 67) (d := 83) (by kernel_rfl) (by kernel_rfl) (by decide)))
theorem MX.s69 (X : MX) (ok : MXok X) : X.step 69 := by
  intro Q listed a w o hI h1 ho h2
  obtain ⟨hd, hop, hg⟩ := fields (x := some 85) (y := Op.fieldAddr 24 (.tmp 2) 5) (z := none) (by kernel_rfl) ho
  exact st_val X hI ho hd hg (by decide) (by decide) (r_fa o a.eval _ 2 5 _ hop (by decide) ((hI.1.eval0 (by kernel_rfl)).trans ok.e2))
theorem MX.s70 (X : MX) (ok : MXok X) : X.step 70 := by
  intro Q listed a w o hI h1 ho h2
  obtain ⟨hd, hop, hg⟩ := fields (x := some 86) (y := Op.load 3 (.tmp 85)) (z := none) (by kernel_rfl) ho
  exact st_val X hI ho hd hg (by decide) (by decide) (r_ld o a.eval _ 85 5 _ _ hop (slot X ok hI ho h2 (j := 69) (d := 85) (by kernel_rfl) (by kernel_rfl) (by decide)) ((X.wd_cell listed _ _ (by have := ok.hB; omega)).trans ok.c5))
theorem MX.s71 (X : MX) (ok : MXok X) : X.step 71 := by
  intro Q listed a w o hI h1 ho h2
  obtain ⟨hd, hop, hg⟩ := fields (x := some 87) (y := Op.binOp .add 3 (.tmp 84) (.tmp 86) 3) (z := none) (by kernel_rfl) ho
  exact st_val X hI ho hd hg (by decide) (by decide) (r_add o a.eval _ 84 86 _ _ hop (slot X ok hI ho h2 (j := 68) (d := 84) (by kernel_rfl) (by kernel_rfl) (by decide)) (slot X ok hI ho h2 (j := 70) (d := 86) (by kernel_rfl) (by kernel_rfl) (by decide)))
theorem MX.s72 (X : MX) (ok : MXok X) : X.step 72 := by
  intro Q listed a w o hI h1 ho h2
  obtain ⟨hd, hop, hg⟩ := fields (x := some 88) (y := Op.build 24 #[(0, .tmp 26), (1, .tmp 37), (2, .tmp 48), (3, .tmp 59), (4, .tmp 73), (5, .tmp 87)]) (z := none) (by kernel_rfl) ho
  exact st_val X hI ho hd hg (by decide) (by decide) (r_bld o a.eval _ _ _ _ _ _ _ hop (slot X ok hI ho h2 (j := 10) (d := 26) (by kernel_rfl) (by kernel_rfl) (by decide)) (slot X ok hI ho h2 (j := 21) (d := 37) (by kernel_rfl) (by kernel_rfl) (by decide)) (slot X ok hI ho h2 (j := 32) (d := 48) (by kernel_rfl) (by kernel_rfl) (by decide)) (slot X ok hI ho h2 (j := 43) (d := 59) (by kernel_rfl) (by kernel_rfl) (by decide)) (slot X ok hI ho h2 (j := 57) (d := 73) (by kernel_rfl) (by kernel_rfl) (by decide)) (slot X ok hI ho h2 (j := 71) (d := 87) (by kernel_rfl) (by kernel_rfl) (by decide)))
theorem MX.s73 (X : MX) (ok : MXok X) : X.step 73 := by
  intro Q listed a w o hI h1 ho h2
  obtain ⟨hd, hop, hg⟩ := fields (x := some 6) (y := Op.alloc 24) (z := none) (by kernel_rfl) ho
  have hi := hI.1.lt ho
  obtain ⟨hF, rfl, h3⟩ := hI
  have hA : listed.getD 73 false = false := by
    rw [Array.getD_eq_getD_getElem?, Array.getElem?_eq_getElem hi] at h1 ⊢; exact h1
  have hS : listed.getD 74 false = false := by
    cases hh : listed.getD 74 false with
    | true => rw [h3 hh] at hA; cases hA
    | false => rfl
  have hw0 : X.wd listed = X.W := by unfold MX.wd; rw [hS, hA]; rfl
  have hw1 : X.wd (listed.setIfInBounds 73 true) = X.W.alloc (.cells zero6 24) := by
    unfold MX.wd; rw [getF_set hi, getF_set hi, hS, hA]; rfl
  unfold wpOp
  rw [ho]
  have hw : Region.wanted o (yielded (opsOf 3 Tryz.f5) a.tmps) = true := by unfold Region.wanted; rw [hg]
  simp only [hw, if_true]
  refine Or.inl ?_
  unfold Oper.wp
  rw [hw0, r_alloc o a.eval _ hop]
  exact ⟨hF.put ho hd, hw1.symm, inv_set hi (by decide) h3⟩
theorem MX.s74 (X : MX) (ok : MXok X) : X.step 74 := by
  intro Q listed a w o hI h1 ho h2
  obtain ⟨hd, hop, hg⟩ := fields (x := none) (y := Op.store 24 (.tmp 6) (.tmp 88)) (z := none) (by kernel_rfl) ho
  have hi := hI.1.lt ho
  have e1 := (slot X ok hI ho h2 (j := 73) (d := 6) (by kernel_rfl) (by kernel_rfl) (by decide))
  have e2 := (slot X ok hI ho h2 (j := 72) (d := 88) (by kernel_rfl) (by kernel_rfl) (by decide))
  have hA := waits ho (j := 73) (by kernel_rfl) h2
  obtain ⟨hF, rfl, h3⟩ := hI
  have hS : listed.getD 74 false = false := by
    rw [Array.getD_eq_getD_getElem?, Array.getElem?_eq_getElem hi] at h1 ⊢; exact h1
  have hw0 : X.wd listed = X.W.alloc (.cells zero6 24) := by unfold MX.wd; rw [hS, hA]; rfl
  have hw1 : X.wd (listed.setIfInBounds 74 true) = X.W.alloc (.cells X.cells 24) := by
    unfold MX.wd; rw [getF_set hi]; rfl
  unfold wpOp
  rw [ho]
  have hw : Region.wanted o (yielded (opsOf 3 Tryz.f5) a.tmps) = true := by unfold Region.wanted; rw [hg]
  simp only [hw, if_true]
  refine Or.inl ?_
  unfold Oper.wp
  rw [hw0]
  have hr := r_store o a.eval X.W _ _ _ _ _ _ hop e1 e2
  unfold zero6
  rw [hr]
  exact ⟨hF.skip ho hd _, hw1.symm, fun _ => by rw [getF_set hi, hA]; simp⟩
theorem MX.steps (X : MX) (ok : MXok X) (i : Nat) (hi : i < 75) : X.step i := by
  have hc : i = 0 ∨ i = 1 ∨ i = 2 ∨ i = 3 ∨ i = 4 ∨ i = 5 ∨ i = 6 ∨ i = 7 ∨ i = 8 ∨ i = 9 ∨ i = 10 ∨ i = 11 ∨ i = 12 ∨ i = 13 ∨ i = 14 ∨ i = 15 ∨ i = 16 ∨ i = 17 ∨ i = 18 ∨ i = 19 ∨ i = 20 ∨ i = 21 ∨ i = 22 ∨ i = 23 ∨ i = 24 ∨ i = 25 ∨ i = 26 ∨ i = 27 ∨ i = 28 ∨ i = 29 ∨ i = 30 ∨ i = 31 ∨ i = 32 ∨ i = 33 ∨ i = 34 ∨ i = 35 ∨ i = 36 ∨ i = 37 ∨ i = 38 ∨ i = 39 ∨ i = 40 ∨ i = 41 ∨ i = 42 ∨ i = 43 ∨ i = 44 ∨ i = 45 ∨ i = 46 ∨ i = 47 ∨ i = 48 ∨ i = 49 ∨ i = 50 ∨ i = 51 ∨ i = 52 ∨ i = 53 ∨ i = 54 ∨ i = 55 ∨ i = 56 ∨ i = 57 ∨ i = 58 ∨ i = 59 ∨ i = 60 ∨ i = 61 ∨ i = 62 ∨ i = 63 ∨ i = 64 ∨ i = 65 ∨ i = 66 ∨ i = 67 ∨ i = 68 ∨ i = 69 ∨ i = 70 ∨ i = 71 ∨ i = 72 ∨ i = 73 ∨ i = 74 := by omega
  rcases hc with rfl | rfl | rfl | rfl | rfl | rfl | rfl | rfl | rfl | rfl | rfl | rfl | rfl | rfl | rfl | rfl | rfl | rfl | rfl | rfl | rfl | rfl | rfl | rfl | rfl | rfl | rfl | rfl | rfl | rfl | rfl | rfl | rfl | rfl | rfl | rfl | rfl | rfl | rfl | rfl | rfl | rfl | rfl | rfl | rfl | rfl | rfl | rfl | rfl | rfl | rfl | rfl | rfl | rfl | rfl | rfl | rfl | rfl | rfl | rfl | rfl | rfl | rfl | rfl | rfl | rfl | rfl | rfl | rfl | rfl | rfl | rfl | rfl | rfl | rfl
  · exact X.s0 ok
  · exact X.s1 ok
  · exact X.s2 ok
  · exact X.s3 ok
  · exact X.s4 ok
  · exact X.s5 ok
  · exact X.s6 ok
  · exact X.s7 ok
  · exact X.s8 ok
  · exact X.s9 ok
  · exact X.s10 ok
  · exact X.s11 ok
  · exact X.s12 ok
  · exact X.s13 ok
  · exact X.s14 ok
  · exact X.s15 ok
  · exact X.s16 ok
  · exact X.s17 ok
  · exact X.s18 ok
  · exact X.s19 ok
  · exact X.s20 ok
  · exact X.s21 ok
  · exact X.s22 ok
  · exact X.s23 ok
  · exact X.s24 ok
  · exact X.s25 ok
  · exact X.s26 ok
  · exact X.s27 ok
  · exact X.s28 ok
  · exact X.s29 ok
  · exact X.s30 ok
  · exact X.s31 ok
  · exact X.s32 ok
  · exact X.s33 ok
  · exact X.s34 ok
  · exact X.s35 ok
  · exact X.s36 ok
  · exact X.s37 ok
  · exact X.s38 ok
  · exact X.s39 ok
  · exact X.s40 ok
  · exact X.s41 ok
  · exact X.s42 ok
  · exact X.s43 ok
  · exact X.s44 ok
  · exact X.s45 ok
  · exact X.s46 ok
  · exact X.s47 ok
  · exact X.s48 ok
  · exact X.s49 ok
  · exact X.s50 ok
  · exact X.s51 ok
  · exact X.s52 ok
  · exact X.s53 ok
  · exact X.s54 ok
  · exact X.s55 ok
  · exact X.s56 ok
  · exact X.s57 ok
  · exact X.s58 ok
  · exact X.s59 ok
  · exact X.s60 ok
  · exact X.s61 ok
  · exact X.s62 ok
  · exact X.s63 ok
  · exact X.s64 ok
  · exact X.s65 ok
  · exact X.s66 ok
  · exact X.s67 ok
  · exact X.s68 ok
  · exact X.s69 ok
  · exact X.s70 ok
  · exact X.s71 ok
  · exact X.s72 ok
  · exact X.s73 ok
  · exact X.s74 ok
theorem ops_size : (opsOf 3 Tryz.f5).size = 75 := by kernel_rfl
/-- The statement, whatever order its operations come up in. -/
theorem MX.run (X : MX) (ok : MXok X) {Q : Exit → Act → World → Prop} (hend : ∀ listed a, X.inv listed a (X.wd listed) → Region.ready .any (opsOf 3 Tryz.f5) listed = [] → Q .normal a (X.wd listed)) (w : World) (hw : { w with drawn := w.drawn + 1 } = X.W) : (Code.region 3 (opsOf 3 Tryz.f5) true).wp Tryz.prog Q X.a0 w := by
  refine wp_region_any (by kernel_rfl) ?_
  rw [hw]
  refine wpAny_inv X.inv (fun listed a w i o hI h1 ho h2 => ?_) (fun listed a w hI hr => ?_) _ _ _ _ ?_ ?_
  · have hi : i < 75 := by rw [← ops_size]; exact (Array.getElem?_eq_some_iff.1 ho).1
    exact X.steps ok i hi Q listed a w o hI h1 ho h2
  · obtain ⟨hF, rfl, h3⟩ := hI
    exact hend listed a ⟨hF, rfl, h3⟩ hr
  · have hno : ∀ j, (Array.replicate (opsOf 3 Tryz.f5).size false).getD j false = false := fun j => by
      rw [Array.getD_eq_getD_getElem?, Array.getElem?_replicate]; split <;> rfl
    refine ⟨⟨by simp, rfl, rfl, fun d _ hg => ?_, fun d _ => rfl⟩, ?_, fun h => ?_⟩
    · obtain ⟨i, h1, _⟩ := hg; rw [hno] at h1; cases h1
    · unfold MX.wd; rw [hno, hno]; rfl
    · rw [hno] at h; cases h
  · unfold left; exact Nat.le_trans (List.length_filter_le _ _) (by simp)
end Go.Proofs.YtpfhnedklihdoaaGreatDoor
namespace Go.Proofs.YtpfhnedklihdoaaGreatDoor
open Go.ChangeShapes Go.WideShapes Go.ChangeAt Go.RowKit
set_option linter.unusedVariables false

theorem all_of_ready {ops : Array Oper} {md : Region.Mode} {listed : Array Bool} (h : (List.range ops.size).all (fun i => ((ops[i]?).map (fun o => o.after.all fun e => !Region.binds md e || decide (e.on < i))).getD true) = true) (hs : listed.size = ops.size) (hr : Region.ready md ops listed = []) : ∀ i, i < ops.size → listed.getD i false = true := by
  intro i
  induction i using Nat.strongRecOn with
  | _ i ih =>
    intro hi
    cases hl : listed.getD i false with
    | true => rfl
    | false =>
      exfalso
      have hlt : i < listed.size := by rw [hs]; exact hi
      have hl2 : listed.getD i true = false := by
        rw [Array.getD_eq_getD_getElem?, Array.getElem?_eq_getElem hlt] at hl ⊢; exact hl
      have ho : ops[i]? = some ops[i] := Array.getElem?_eq_getElem hi
      have hm : i ∈ Region.ready md ops listed := mem_ready.2 ⟨hl2, ops[i], ho, fun e he hb => by
        have h1 := List.all_eq_true.1 h i (List.mem_range.2 hi)
        rw [ho] at h1
        simp only [Option.map_some, Option.getD_some] at h1
        have h2 := (Array.all_eq_true_iff_forall_mem.1 h1) e he
        rw [hb] at h2
        simp at h2
        exact ih e.on h2 (by omega)⟩
      rw [hr] at hm
      cases hm
theorem ops_up : (List.range (opsOf 3 Tryz.f5).size).all (fun i => (((opsOf 3 Tryz.f5)[i]?).map (fun o => o.after.all fun e => !Region.binds .any e || decide (e.on < i))).getD true) = true := by kernel_rfl
set_option maxHeartbeats 4000000 in
theorem imul_yes (w : World) (a b c d e f a' b' c' d' e' f' : Int) (m : Int → Int → Int) (x0 x1 x2 x3 x4 x5 : Int) (hx0 : IntKind.i64.wrap ((m a a') + (m c b')) = x0) (hx1 : IntKind.i64.wrap ((m b a') + (m d b')) = x1) (hx2 : IntKind.i64.wrap ((m a c') + (m c d')) = x2) (hx3 : IntKind.i64.wrap ((m b c') + (m d d')) = x3) (hx4 : IntKind.i64.wrap ((IntKind.i64.wrap ((m a e') + (m c f'))) + e) = x4) (hx5 : IntKind.i64.wrap ((IntKind.i64.wrap ((m b e') + (m d f'))) + f) = x5) (hgm : gA x0 x1 x2 x3 x4 x5 = true) (hgA : gA a b c d e f = true) (hgB : gA a' b' c' d' e' f' = true) (hS : ∀ x y w, Calls Tryz.prog 14 #[.int .i64 x, .int .i64 y] w fun e w' => e = .returned (.int .i64 (m x y)) ∧ w' = w) :
    Calls Tryz.prog 5 #[affV a b c d e f, affV a' b' c' d' e' f'] w fun x w' => x = .returned (.tuple #[affV x0 x1 x2 x3 x4 x5, .bool true]) ∧ Kp w w' := by
  have HX : Hid _ := And.intro hx0 (And.intro hx1 (And.intro hx2 (And.intro hx3 (And.intro hx4 hx5))))
  clear hx0 hx1 hx2 hx3 hx4 hx5
  have HGMX : Hid _ := hgm
  clear hgm
  have HS : Hid _ := hS
  have HGA : Hid _ := fun w => igoodAff w a b c d e f
  have HGB : Hid _ := fun w => igoodAff w a' b' c' d' e' f'
  rw [hgA] at HGA
  rw [hgB] at HGB
  clear hS hgA hgB
  unfold affV at *
  go_enter Tryz.func5, Tryz.ntmps5
  go_wp2_with fail
  refine (HGA.out _).mono ?_; rintro x w1 ⟨rfl, k1⟩
  generalize hW : ((w.alloc (.cells #[.int .i64 a, .int .i64 b, .int .i64 c, .int .i64 d, .int .i64 e, .int .i64 f] 24)).alloc (.cells #[.int .i64 a', .int .i64 b', .int .i64 c', .int .i64 d', .int .i64 e', .int .i64 f'] 24)).alloc (.cells #[.int .i64 0, .int .i64 0, .int .i64 0, .int .i64 0, .int .i64 0, .int .i64 0] 24) = W at *
  have hsz : W.heap.size = w.heap.size + 3 := by rw [← hW]; simp
  have hall : W.cell? ⟨w.heap.size, 0, none⟩ = some (.int .i64 a) ∧ W.cell? ⟨w.heap.size, 1, none⟩ = some (.int .i64 b) ∧ W.cell? ⟨w.heap.size, 2, none⟩ = some (.int .i64 c) ∧ W.cell? ⟨w.heap.size, 3, none⟩ = some (.int .i64 d) ∧ W.cell? ⟨w.heap.size, 4, none⟩ = some (.int .i64 e) ∧ W.cell? ⟨w.heap.size, 5, none⟩ = some (.int .i64 f) ∧ W.cell? ⟨w.heap.size + 1, 0, none⟩ = some (.int .i64 a') ∧ W.cell? ⟨w.heap.size + 1, 1, none⟩ = some (.int .i64 b') ∧ W.cell? ⟨w.heap.size + 1, 2, none⟩ = some (.int .i64 c') ∧ W.cell? ⟨w.heap.size + 1, 3, none⟩ = some (.int .i64 d') ∧ W.cell? ⟨w.heap.size + 1, 4, none⟩ = some (.int .i64 e') ∧ W.cell? ⟨w.heap.size + 1, 5, none⟩ = some (.int .i64 f') := by
    refine ⟨?_, ?_, ?_, ?_, ?_, ?_, ?_, ?_, ?_, ?_, ?_, ?_⟩
    all_goals (rw [← hW]; first | (rw [cells3a]; rfl) | (rw [cells3b]; rfl))
  have hz : ∀ j, j < 6 → W.cell? ⟨w.heap.size + 1 + 1, j, none⟩ = some (.int .i64 0) := fun j hj => by
    rw [← hW, cells3c]
    rcases (show j = 0 ∨ j = 1 ∨ j = 2 ∨ j = 3 ∨ j = 4 ∨ j = 5 by omega) with rfl | rfl | rfl | rfl | rfl | rfl <;> rfl
  have hf : ∀ j, W.frozen? ⟨w.heap.size + 1 + 1, j, none⟩ = false := fun j => by rw [← hW, cells3f]
  have HW0 : Hid (Kp w W) := by rw [← hW]; exact kp3 w _ _ _ _
  have hall1 := keep6 w.heap.size a b c d e f a' b' c' d' e' f' (by omega) k1 hall
  have hz1 := keepZ (w.heap.size + 1 + 1) (by omega) k1 hz hf
  have HK1 : Hid (Kp w w1) := Kp.trans HW0.out k1
  have ks1 := Kp.size k1
  clear hW hall k1 hz hf HW0
  obtain ⟨B, hB⟩ : ∃ B, w.heap.size = B := ⟨_, rfl⟩
  have HBw : Hid (w.heap.size = B) := hB
  rw [hB] at hsz hall1 hz1 ⊢
  clear hB
  obtain ⟨h0, h1, h2, h3, h4, h5, g0, g1, g2, g3, g4, g5⟩ := hall1
  go_wp2_with fail
  refine (HGB.out _).mono ?_; rintro x w2 ⟨rfl, k2⟩
  have hall2 := keep6 B a b c d e f a' b' c' d' e' f' (by omega) k2 ⟨h0, h1, h2, h3, h4, h5, g0, g1, g2, g3, g4, g5⟩
  have HZ2 : Hid _ := keepZ (B + 1 + 1) (by omega) k2 hz1.1 hz1.2
  have ks2 := Kp.size k2
  have HK2 : Hid (Kp w w2) := Kp.trans HK1.out k2
  have HS2 : Hid _ := hall2
  have HB2 : Hid (B + 1 + 1 < w2.heap.size) := (show _ < _ by omega)
  clear k2 h0 h1 h2 h3 h4 h5 g0 g1 g2 g3 g4 g5 hall2 hz1 hsz ks1 ks2 HK1
  go_wp2_with fail
  refine reg_change (ops' := (opsOf 3 Tryz.f5)) (by kernel_rfl) ?_
  refine MX.run ⟨m, a, b, c, d, e, f, a', b', c', d', e', f', B, w2.drew, ⟨(List.toArray ((affV a b c d e f) :: (affV a' b' c' d' e' f') :: (.pointer (some ⟨B, 0, none⟩)) :: (.pointer (some ⟨B + 1, 0, none⟩)) :: (.pointer (some ⟨B + 1 + 1, 0, none⟩)) :: (.bool false) :: undef :: (affV a b c d e f) :: (.bool true) :: (.bool false) :: (.bool false) :: (affV a' b' c' d' e' f') :: (.bool true) :: (.bool false) :: (.bool false) :: undef :: undef :: undef :: undef :: undef :: undef :: undef :: undef :: undef :: undef :: undef :: undef :: undef :: undef :: undef :: undef :: undef :: undef :: undef :: undef :: undef :: undef :: undef :: undef :: undef :: undef :: undef :: undef :: undef :: undef :: undef :: undef :: undef :: undef :: undef :: undef :: undef :: undef :: undef :: undef :: undef :: undef :: undef :: undef :: undef :: undef :: undef :: undef :: undef :: undef :: undef :: undef :: undef :: undef :: undef :: undef :: undef :: undef :: undef :: undef :: undef :: undef :: undef :: undef :: undef :: undef :: undef :: undef :: undef :: undef :: undef :: undef :: undef :: undef :: undef :: undef :: undef :: undef :: undef :: [])), []⟩⟩ ?ok ?hend w2 rfl
  case ok =>
    obtain ⟨h0, h1, h2, h3, h4, h5, g0, g1, g2, g3, g4, g5⟩ := HS2.out
    exact ⟨(show B + 1 < w2.heap.size by have := HB2.out; omega), h0, h1, h2, h3, h4, h5, g0, g1, g2, g3, g4, g5, rfl, rfl, rfl, HS.out⟩
  case hend =>
    intro listed act hI hr
    have hall := all_of_ready ops_up hI.1.size hr
    have hfr := hI.1.fin hall
    have hwd : MX.wd ⟨m, a, b, c, d, e, f, a', b', c', d', e', f', B, w2.drew, ⟨(List.toArray ((affV a b c d e f) :: (affV a' b' c' d' e' f') :: (.pointer (some ⟨B, 0, none⟩)) :: (.pointer (some ⟨B + 1, 0, none⟩)) :: (.pointer (some ⟨B + 1 + 1, 0, none⟩)) :: (.bool false) :: undef :: (affV a b c d e f) :: (.bool true) :: (.bool false) :: (.bool false) :: (affV a' b' c' d' e' f') :: (.bool true) :: (.bool false) :: (.bool false) :: undef :: undef :: undef :: undef :: undef :: undef :: undef :: undef :: undef :: undef :: undef :: undef :: undef :: undef :: undef :: undef :: undef :: undef :: undef :: undef :: undef :: undef :: undef :: undef :: undef :: undef :: undef :: undef :: undef :: undef :: undef :: undef :: undef :: undef :: undef :: undef :: undef :: undef :: undef :: undef :: undef :: undef :: undef :: undef :: undef :: undef :: undef :: undef :: undef :: undef :: undef :: undef :: undef :: undef :: undef :: undef :: undef :: undef :: undef :: undef :: undef :: undef :: undef :: undef :: undef :: undef :: undef :: undef :: undef :: undef :: undef :: undef :: undef :: undef :: undef :: undef :: undef :: undef :: undef :: [])), []⟩⟩ listed = w2.drew.alloc (.cells #[.int .i64 (IntKind.i64.wrap ((m a a') + (m c b'))), .int .i64 (IntKind.i64.wrap ((m b a') + (m d b'))), .int .i64 (IntKind.i64.wrap ((m a c') + (m c d'))), .int .i64 (IntKind.i64.wrap ((m b c') + (m d d'))), .int .i64 (IntKind.i64.wrap ((IntKind.i64.wrap ((m a e') + (m c f'))) + e)), .int .i64 (IntKind.i64.wrap ((IntKind.i64.wrap ((m b e') + (m d f'))) + f))] 24) := by
      unfold MX.wd
      rw [hall 74 (by rw [ops_size]; decide)]
      rfl
    rw [hwd]
    have hlit : act = ⟨(List.toArray ((affV a b c d e f) :: (affV a' b' c' d' e' f') :: (.pointer (some ⟨B, 0, none⟩)) :: (.pointer (some ⟨B + 1, 0, none⟩)) :: (.pointer (some ⟨B + 1 + 1, 0, none⟩)) :: (.bool false) :: (.pointer (some ⟨w2.heap.size, 0, none⟩)) :: (affV a b c d e f) :: (.bool true) :: (.bool false) :: (.bool false) :: (affV a' b' c' d' e' f') :: (.bool true) :: (.bool false) :: (.bool false) :: undef :: (.pointer (some ⟨B, 0, none⟩)) :: (.int .i64 a) :: (.pointer (some ⟨B + 1, 0, none⟩)) :: (.int .i64 a') :: (.int .i64 (m a a')) :: (.pointer (some ⟨B, 2, none⟩)) :: (.int .i64 c) :: (.pointer (some ⟨B + 1, 1, none⟩)) :: (.int .i64 b') :: (.int .i64 (m c b')) :: (.int .i64 (IntKind.i64.wrap ((m a a') + (m c b')))) :: (.pointer (some ⟨B, 1, none⟩)) :: (.int .i64 b) :: (.pointer (some ⟨B + 1, 0, none⟩)) :: (.int .i64 a') :: (.int .i64 (m b a')) :: (.pointer (some ⟨B, 3, none⟩)) :: (.int .i64 d) :: (.pointer (some ⟨B + 1, 1, none⟩)) :: (.int .i64 b') :: (.int .i64 (m d b')) :: (.int .i64 (IntKind.i64.wrap ((m b a') + (m d b')))) :: (.pointer (some ⟨B, 0, none⟩)) :: (.int .i64 a) :: (.pointer (some ⟨B + 1, 2, none⟩)) :: (.int .i64 c') :: (.int .i64 (m a c')) :: (.pointer (some ⟨B, 2, none⟩)) :: (.int .i64 c) :: (.pointer (some ⟨B + 1, 3, none⟩)) :: (.int .i64 d') :: (.int .i64 (m c d')) :: (.int .i64 (IntKind.i64.wrap ((m a c') + (m c d')))) :: (.pointer (some ⟨B, 1, none⟩)) :: (.int .i64 b) :: (.pointer (some ⟨B + 1, 2, none⟩)) :: (.int .i64 c') :: (.int .i64 (m b c')) :: (.pointer (some ⟨B, 3, none⟩)) :: (.int .i64 d) :: (.pointer (some ⟨B + 1, 3, none⟩)) :: (.int .i64 d') :: (.int .i64 (m d d')) :: (.int .i64 (IntKind.i64.wrap ((m b c') + (m d d')))) :: (.pointer (some ⟨B, 0, none⟩)) :: (.int .i64 a) :: (.pointer (some ⟨B + 1, 4, none⟩)) :: (.int .i64 e') :: (.int .i64 (m a e')) :: (.pointer (some ⟨B, 2, none⟩)) :: (.int .i64 c) :: (.pointer (some ⟨B + 1, 5, none⟩)) :: (.int .i64 f') :: (.int .i64 (m c f')) :: (.int .i64 (IntKind.i64.wrap ((m a e') + (m c f')))) :: (.pointer (some ⟨B, 4, none⟩)) :: (.int .i64 e) :: (.int .i64 (IntKind.i64.wrap ((IntKind.i64.wrap ((m a e') + (m c f'))) + e))) :: (.pointer (some ⟨B, 1, none⟩)) :: (.int .i64 b) :: (.pointer (some ⟨B + 1, 4, none⟩)) :: (.int .i64 e') :: (.int .i64 (m b e')) :: (.pointer (some ⟨B, 3, none⟩)) :: (.int .i64 d) :: (.pointer (some ⟨B + 1, 5, none⟩)) :: (.int .i64 f') :: (.int .i64 (m d f')) :: (.int .i64 (IntKind.i64.wrap ((m b e') + (m d f')))) :: (.pointer (some ⟨B, 5, none⟩)) :: (.int .i64 f) :: (.int .i64 (IntKind.i64.wrap ((IntKind.i64.wrap ((m b e') + (m d f'))) + f))) :: (affV (IntKind.i64.wrap ((m a a') + (m c b'))) (IntKind.i64.wrap ((m b a') + (m d b'))) (IntKind.i64.wrap ((m a c') + (m c d'))) (IntKind.i64.wrap ((m b c') + (m d d'))) (IntKind.i64.wrap ((IntKind.i64.wrap ((m a e') + (m c f'))) + e)) (IntKind.i64.wrap ((IntKind.i64.wrap ((m b e') + (m d f'))) + f))) :: undef :: undef :: undef :: undef :: undef :: [])), []⟩ := hfr.trans (by kernel_rfl)
    rw [hlit]
    clear hlit hfr hall hwd hr hI listed act
    clear HS HGA HGB HS2
    obtain ⟨hx0, hx1, hx2, hx3, hx4, hx5⟩ := HX.out
    rw [hx0, hx1, hx2, hx3, hx4, hx5]
    clear hx0 hx1 hx2 hx3 hx4 hx5 HX
    have HGM : Hid _ := fun w => igoodAff w x0 x1 x2 x3 x4 x5
    rw [HGMX.out] at HGM
    unfold affV at HGM ⊢
    obtain ⟨N, hN⟩ : ∃ N, w2.heap.size = N := ⟨_, rfl⟩
    generalize hW3 : w2.drew.alloc (.cells #[.int .i64 x0, .int .i64 x1, .int .i64 x2, .int .i64 x3, .int .i64 x4, .int .i64 x5] 24) = w3
    have m3 : ∀ o, w3.cell? ⟨w2.heap.size, o, none⟩ = (#[.int .i64 x0, .int .i64 x1, .int .i64 x2, .int .i64 x3, .int .i64 x4, .int .i64 x5] : Array Value)[o]? := fun o => by rw [← hW3]; exact World.cell?_alloc_at _ _ _ _ rfl
    have k3 : Kp w2 w3 := by rw [← hW3]; exact ((Kp.refl w2).drew).alloc _ _
    have hz3 := keepZ (B + 1 + 1) HB2.out k3 HZ2.out.1 HZ2.out.2
    have HK3 : Hid (Kp w w3) := Kp.trans HK2.out k3
    have HB3 : Hid (B + 1 + 1 < w3.heap.size) := (show _ < _ by have := HB2.out; have := Kp.size k3; omega)
    rw [hN] at m3 ⊢
    have m0 : w3.cell? ⟨N, 0, none⟩ = some (.int .i64 x0) := m3 0
    have m1 : w3.cell? ⟨N, 1, none⟩ = some (.int .i64 x1) := m3 1
    have m2 : w3.cell? ⟨N, 2, none⟩ = some (.int .i64 x2) := m3 2
    have m3' : w3.cell? ⟨N, 3, none⟩ = some (.int .i64 x3) := m3 3
    have m4 : w3.cell? ⟨N, 4, none⟩ = some (.int .i64 x4) := m3 4
    have m5 : w3.cell? ⟨N, 5, none⟩ = some (.int .i64 x5) := m3 5
    have HN3 : Hid (N < w3.heap.size) := World.block_lt_of_cell? w3 ⟨N, 0, none⟩ m0
    clear hW3 m3 k3 HZ2 HK2 HB2 hN
    have HZ3 : Hid _ := hz3
    clear hz3
    go_wp2_with fail
    refine (HGM.out _).mono ?_; rintro x w4 ⟨rfl, k4⟩
    have kc := (Kp.cells k4).1
    have n0 := (kc N 0 HN3.out).trans m0
    have n1 := (kc N 1 HN3.out).trans m1
    have n2 := (kc N 2 HN3.out).trans m2
    have n3 := (kc N 3 HN3.out).trans m3'
    have n4 := (kc N 4 HN3.out).trans m4
    have n5 := (kc N 5 HN3.out).trans m5
    obtain ⟨hz, hf⟩ := keepZ (B + 1 + 1) HB3.out k4 HZ3.out.1 HZ3.out.2
    have HK4 : Hid (Kp w w4) := Kp.trans HK3.out k4
    have hBw : Hid (w.heap.size ≤ B + 1 + 1) := (show _ ≤ _ by have := HBw.out; omega)
    clear k4 kc m0 m1 m2 m3' m4 m5
    go_wp2
    obtain ⟨y0, y1, y2, y3, y4, y5⟩ := six_set w4 (B + 1 + 1) (.int .i64 x0) (.int .i64 x1) (.int .i64 x2) (.int .i64 x3) (.int .i64 x4) (.int .i64 x5) hz
    refine bodyPost_ret (v := .tuple #[affV x0 x1 x2 x3 x4 x5, .bool true]) (by simp [results, Tryz.results5, go_sem, y0, y1, y2, y3, y4, y5]) rfl ⟨rfl, ?_⟩
    exact (((((HK4.out.setCell hBw.out _).setCell hBw.out _).setCell hBw.out _).setCell hBw.out _).setCell hBw.out _).setCell hBw.out _
set_option maxHeartbeats 4000000 in
theorem imul_no (w : World) (a b c d e f a' b' c' d' e' f' : Int) (m : Int → Int → Int) (x0 x1 x2 x3 x4 x5 : Int) (hx0 : IntKind.i64.wrap ((m a a') + (m c b')) = x0) (hx1 : IntKind.i64.wrap ((m b a') + (m d b')) = x1) (hx2 : IntKind.i64.wrap ((m a c') + (m c d')) = x2) (hx3 : IntKind.i64.wrap ((m b c') + (m d d')) = x3) (hx4 : IntKind.i64.wrap ((IntKind.i64.wrap ((m a e') + (m c f'))) + e) = x4) (hx5 : IntKind.i64.wrap ((IntKind.i64.wrap ((m b e') + (m d f'))) + f) = x5) (hgm : gA x0 x1 x2 x3 x4 x5 = false) (hgA : gA a b c d e f = true) (hgB : gA a' b' c' d' e' f' = true) (hS : ∀ x y w, Calls Tryz.prog 14 #[.int .i64 x, .int .i64 y] w fun e w' => e = .returned (.int .i64 (m x y)) ∧ w' = w) :
    Calls Tryz.prog 5 #[affV a b c d e f, affV a' b' c' d' e' f'] w fun x w' => x = .returned (.tuple #[affV 0 0 0 0 0 0, .bool false]) ∧ Kp w w' := by
  have HX : Hid _ := And.intro hx0 (And.intro hx1 (And.intro hx2 (And.intro hx3 (And.intro hx4 hx5))))
  clear hx0 hx1 hx2 hx3 hx4 hx5
  have HGMX : Hid _ := hgm
  clear hgm
  have HS : Hid _ := hS
  have HGA : Hid _ := fun w => igoodAff w a b c d e f
  have HGB : Hid _ := fun w => igoodAff w a' b' c' d' e' f'
  rw [hgA] at HGA
  rw [hgB] at HGB
  clear hS hgA hgB
  unfold affV at *
  go_enter Tryz.func5, Tryz.ntmps5
  go_wp2_with fail
  refine (HGA.out _).mono ?_; rintro x w1 ⟨rfl, k1⟩
  generalize hW : ((w.alloc (.cells #[.int .i64 a, .int .i64 b, .int .i64 c, .int .i64 d, .int .i64 e, .int .i64 f] 24)).alloc (.cells #[.int .i64 a', .int .i64 b', .int .i64 c', .int .i64 d', .int .i64 e', .int .i64 f'] 24)).alloc (.cells #[.int .i64 0, .int .i64 0, .int .i64 0, .int .i64 0, .int .i64 0, .int .i64 0] 24) = W at *
  have hsz : W.heap.size = w.heap.size + 3 := by rw [← hW]; simp
  have hall : W.cell? ⟨w.heap.size, 0, none⟩ = some (.int .i64 a) ∧ W.cell? ⟨w.heap.size, 1, none⟩ = some (.int .i64 b) ∧ W.cell? ⟨w.heap.size, 2, none⟩ = some (.int .i64 c) ∧ W.cell? ⟨w.heap.size, 3, none⟩ = some (.int .i64 d) ∧ W.cell? ⟨w.heap.size, 4, none⟩ = some (.int .i64 e) ∧ W.cell? ⟨w.heap.size, 5, none⟩ = some (.int .i64 f) ∧ W.cell? ⟨w.heap.size + 1, 0, none⟩ = some (.int .i64 a') ∧ W.cell? ⟨w.heap.size + 1, 1, none⟩ = some (.int .i64 b') ∧ W.cell? ⟨w.heap.size + 1, 2, none⟩ = some (.int .i64 c') ∧ W.cell? ⟨w.heap.size + 1, 3, none⟩ = some (.int .i64 d') ∧ W.cell? ⟨w.heap.size + 1, 4, none⟩ = some (.int .i64 e') ∧ W.cell? ⟨w.heap.size + 1, 5, none⟩ = some (.int .i64 f') := by
    refine ⟨?_, ?_, ?_, ?_, ?_, ?_, ?_, ?_, ?_, ?_, ?_, ?_⟩
    all_goals (rw [← hW]; first | (rw [cells3a]; rfl) | (rw [cells3b]; rfl))
  have hz : ∀ j, j < 6 → W.cell? ⟨w.heap.size + 1 + 1, j, none⟩ = some (.int .i64 0) := fun j hj => by
    rw [← hW, cells3c]
    rcases (show j = 0 ∨ j = 1 ∨ j = 2 ∨ j = 3 ∨ j = 4 ∨ j = 5 by omega) with rfl | rfl | rfl | rfl | rfl | rfl <;> rfl
  have hf : ∀ j, W.frozen? ⟨w.heap.size + 1 + 1, j, none⟩ = false := fun j => by rw [← hW, cells3f]
  have HW0 : Hid (Kp w W) := by rw [← hW]; exact kp3 w _ _ _ _
  have hall1 := keep6 w.heap.size a b c d e f a' b' c' d' e' f' (by omega) k1 hall
  have hz1 := keepZ (w.heap.size + 1 + 1) (by omega) k1 hz hf
  have HK1 : Hid (Kp w w1) := Kp.trans HW0.out k1
  have ks1 := Kp.size k1
  clear hW hall k1 hz hf HW0
  obtain ⟨B, hB⟩ : ∃ B, w.heap.size = B := ⟨_, rfl⟩
  have HBw : Hid (w.heap.size = B) := hB
  rw [hB] at hsz hall1 hz1 ⊢
  clear hB
  obtain ⟨h0, h1, h2, h3, h4, h5, g0, g1, g2, g3, g4, g5⟩ := hall1
  go_wp2_with fail
  refine (HGB.out _).mono ?_; rintro x w2 ⟨rfl, k2⟩
  have hall2 := keep6 B a b c d e f a' b' c' d' e' f' (by omega) k2 ⟨h0, h1, h2, h3, h4, h5, g0, g1, g2, g3, g4, g5⟩
  have HZ2 : Hid _ := keepZ (B + 1 + 1) (by omega) k2 hz1.1 hz1.2
  have ks2 := Kp.size k2
  have HK2 : Hid (Kp w w2) := Kp.trans HK1.out k2
  have HS2 : Hid _ := hall2
  have HB2 : Hid (B + 1 + 1 < w2.heap.size) := (show _ < _ by omega)
  clear k2 h0 h1 h2 h3 h4 h5 g0 g1 g2 g3 g4 g5 hall2 hz1 hsz ks1 ks2 HK1
  go_wp2_with fail
  refine reg_change (ops' := (opsOf 3 Tryz.f5)) (by kernel_rfl) ?_
  refine MX.run ⟨m, a, b, c, d, e, f, a', b', c', d', e', f', B, w2.drew, ⟨(List.toArray ((affV a b c d e f) :: (affV a' b' c' d' e' f') :: (.pointer (some ⟨B, 0, none⟩)) :: (.pointer (some ⟨B + 1, 0, none⟩)) :: (.pointer (some ⟨B + 1 + 1, 0, none⟩)) :: (.bool false) :: undef :: (affV a b c d e f) :: (.bool true) :: (.bool false) :: (.bool false) :: (affV a' b' c' d' e' f') :: (.bool true) :: (.bool false) :: (.bool false) :: undef :: undef :: undef :: undef :: undef :: undef :: undef :: undef :: undef :: undef :: undef :: undef :: undef :: undef :: undef :: undef :: undef :: undef :: undef :: undef :: undef :: undef :: undef :: undef :: undef :: undef :: undef :: undef :: undef :: undef :: undef :: undef :: undef :: undef :: undef :: undef :: undef :: undef :: undef :: undef :: undef :: undef :: undef :: undef :: undef :: undef :: undef :: undef :: undef :: undef :: undef :: undef :: undef :: undef :: undef :: undef :: undef :: undef :: undef :: undef :: undef :: undef :: undef :: undef :: undef :: undef :: undef :: undef :: undef :: undef :: undef :: undef :: undef :: undef :: undef :: undef :: undef :: undef :: undef :: [])), []⟩⟩ ?ok ?hend w2 rfl
  case ok =>
    obtain ⟨h0, h1, h2, h3, h4, h5, g0, g1, g2, g3, g4, g5⟩ := HS2.out
    exact ⟨(show B + 1 < w2.heap.size by have := HB2.out; omega), h0, h1, h2, h3, h4, h5, g0, g1, g2, g3, g4, g5, rfl, rfl, rfl, HS.out⟩
  case hend =>
    intro listed act hI hr
    have hall := all_of_ready ops_up hI.1.size hr
    have hfr := hI.1.fin hall
    have hwd : MX.wd ⟨m, a, b, c, d, e, f, a', b', c', d', e', f', B, w2.drew, ⟨(List.toArray ((affV a b c d e f) :: (affV a' b' c' d' e' f') :: (.pointer (some ⟨B, 0, none⟩)) :: (.pointer (some ⟨B + 1, 0, none⟩)) :: (.pointer (some ⟨B + 1 + 1, 0, none⟩)) :: (.bool false) :: undef :: (affV a b c d e f) :: (.bool true) :: (.bool false) :: (.bool false) :: (affV a' b' c' d' e' f') :: (.bool true) :: (.bool false) :: (.bool false) :: undef :: undef :: undef :: undef :: undef :: undef :: undef :: undef :: undef :: undef :: undef :: undef :: undef :: undef :: undef :: undef :: undef :: undef :: undef :: undef :: undef :: undef :: undef :: undef :: undef :: undef :: undef :: undef :: undef :: undef :: undef :: undef :: undef :: undef :: undef :: undef :: undef :: undef :: undef :: undef :: undef :: undef :: undef :: undef :: undef :: undef :: undef :: undef :: undef :: undef :: undef :: undef :: undef :: undef :: undef :: undef :: undef :: undef :: undef :: undef :: undef :: undef :: undef :: undef :: undef :: undef :: undef :: undef :: undef :: undef :: undef :: undef :: undef :: undef :: undef :: undef :: undef :: undef :: undef :: [])), []⟩⟩ listed = w2.drew.alloc (.cells #[.int .i64 (IntKind.i64.wrap ((m a a') + (m c b'))), .int .i64 (IntKind.i64.wrap ((m b a') + (m d b'))), .int .i64 (IntKind.i64.wrap ((m a c') + (m c d'))), .int .i64 (IntKind.i64.wrap ((m b c') + (m d d'))), .int .i64 (IntKind.i64.wrap ((IntKind.i64.wrap ((m a e') + (m c f'))) + e)), .int .i64 (IntKind.i64.wrap ((IntKind.i64.wrap ((m b e') + (m d f'))) + f))] 24) := by
      unfold MX.wd
      rw [hall 74 (by rw [ops_size]; decide)]
      rfl
    rw [hwd]
    have hlit : act = ⟨(List.toArray ((affV a b c d e f) :: (affV a' b' c' d' e' f') :: (.pointer (some ⟨B, 0, none⟩)) :: (.pointer (some ⟨B + 1, 0, none⟩)) :: (.pointer (some ⟨B + 1 + 1, 0, none⟩)) :: (.bool false) :: (.pointer (some ⟨w2.heap.size, 0, none⟩)) :: (affV a b c d e f) :: (.bool true) :: (.bool false) :: (.bool false) :: (affV a' b' c' d' e' f') :: (.bool true) :: (.bool false) :: (.bool false) :: undef :: (.pointer (some ⟨B, 0, none⟩)) :: (.int .i64 a) :: (.pointer (some ⟨B + 1, 0, none⟩)) :: (.int .i64 a') :: (.int .i64 (m a a')) :: (.pointer (some ⟨B, 2, none⟩)) :: (.int .i64 c) :: (.pointer (some ⟨B + 1, 1, none⟩)) :: (.int .i64 b') :: (.int .i64 (m c b')) :: (.int .i64 (IntKind.i64.wrap ((m a a') + (m c b')))) :: (.pointer (some ⟨B, 1, none⟩)) :: (.int .i64 b) :: (.pointer (some ⟨B + 1, 0, none⟩)) :: (.int .i64 a') :: (.int .i64 (m b a')) :: (.pointer (some ⟨B, 3, none⟩)) :: (.int .i64 d) :: (.pointer (some ⟨B + 1, 1, none⟩)) :: (.int .i64 b') :: (.int .i64 (m d b')) :: (.int .i64 (IntKind.i64.wrap ((m b a') + (m d b')))) :: (.pointer (some ⟨B, 0, none⟩)) :: (.int .i64 a) :: (.pointer (some ⟨B + 1, 2, none⟩)) :: (.int .i64 c') :: (.int .i64 (m a c')) :: (.pointer (some ⟨B, 2, none⟩)) :: (.int .i64 c) :: (.pointer (some ⟨B + 1, 3, none⟩)) :: (.int .i64 d') :: (.int .i64 (m c d')) :: (.int .i64 (IntKind.i64.wrap ((m a c') + (m c d')))) :: (.pointer (some ⟨B, 1, none⟩)) :: (.int .i64 b) :: (.pointer (some ⟨B + 1, 2, none⟩)) :: (.int .i64 c') :: (.int .i64 (m b c')) :: (.pointer (some ⟨B, 3, none⟩)) :: (.int .i64 d) :: (.pointer (some ⟨B + 1, 3, none⟩)) :: (.int .i64 d') :: (.int .i64 (m d d')) :: (.int .i64 (IntKind.i64.wrap ((m b c') + (m d d')))) :: (.pointer (some ⟨B, 0, none⟩)) :: (.int .i64 a) :: (.pointer (some ⟨B + 1, 4, none⟩)) :: (.int .i64 e') :: (.int .i64 (m a e')) :: (.pointer (some ⟨B, 2, none⟩)) :: (.int .i64 c) :: (.pointer (some ⟨B + 1, 5, none⟩)) :: (.int .i64 f') :: (.int .i64 (m c f')) :: (.int .i64 (IntKind.i64.wrap ((m a e') + (m c f')))) :: (.pointer (some ⟨B, 4, none⟩)) :: (.int .i64 e) :: (.int .i64 (IntKind.i64.wrap ((IntKind.i64.wrap ((m a e') + (m c f'))) + e))) :: (.pointer (some ⟨B, 1, none⟩)) :: (.int .i64 b) :: (.pointer (some ⟨B + 1, 4, none⟩)) :: (.int .i64 e') :: (.int .i64 (m b e')) :: (.pointer (some ⟨B, 3, none⟩)) :: (.int .i64 d) :: (.pointer (some ⟨B + 1, 5, none⟩)) :: (.int .i64 f') :: (.int .i64 (m d f')) :: (.int .i64 (IntKind.i64.wrap ((m b e') + (m d f')))) :: (.pointer (some ⟨B, 5, none⟩)) :: (.int .i64 f) :: (.int .i64 (IntKind.i64.wrap ((IntKind.i64.wrap ((m b e') + (m d f'))) + f))) :: (affV (IntKind.i64.wrap ((m a a') + (m c b'))) (IntKind.i64.wrap ((m b a') + (m d b'))) (IntKind.i64.wrap ((m a c') + (m c d'))) (IntKind.i64.wrap ((m b c') + (m d d'))) (IntKind.i64.wrap ((IntKind.i64.wrap ((m a e') + (m c f'))) + e)) (IntKind.i64.wrap ((IntKind.i64.wrap ((m b e') + (m d f'))) + f))) :: undef :: undef :: undef :: undef :: undef :: [])), []⟩ := hfr.trans (by kernel_rfl)
    rw [hlit]
    clear hlit hfr hall hwd hr hI listed act
    clear HS HGA HGB HS2
    obtain ⟨hx0, hx1, hx2, hx3, hx4, hx5⟩ := HX.out
    rw [hx0, hx1, hx2, hx3, hx4, hx5]
    clear hx0 hx1 hx2 hx3 hx4 hx5 HX
    have HGM : Hid _ := fun w => igoodAff w x0 x1 x2 x3 x4 x5
    rw [HGMX.out] at HGM
    unfold affV at HGM ⊢
    obtain ⟨N, hN⟩ : ∃ N, w2.heap.size = N := ⟨_, rfl⟩
    generalize hW3 : w2.drew.alloc (.cells #[.int .i64 x0, .int .i64 x1, .int .i64 x2, .int .i64 x3, .int .i64 x4, .int .i64 x5] 24) = w3
    have m3 : ∀ o, w3.cell? ⟨w2.heap.size, o, none⟩ = (#[.int .i64 x0, .int .i64 x1, .int .i64 x2, .int .i64 x3, .int .i64 x4, .int .i64 x5] : Array Value)[o]? := fun o => by rw [← hW3]; exact World.cell?_alloc_at _ _ _ _ rfl
    have k3 : Kp w2 w3 := by rw [← hW3]; exact ((Kp.refl w2).drew).alloc _ _
    have hz3 := keepZ (B + 1 + 1) HB2.out k3 HZ2.out.1 HZ2.out.2
    have HK3 : Hid (Kp w w3) := Kp.trans HK2.out k3
    have HB3 : Hid (B + 1 + 1 < w3.heap.size) := (show _ < _ by have := HB2.out; have := Kp.size k3; omega)
    rw [hN] at m3 ⊢
    have m0 : w3.cell? ⟨N, 0, none⟩ = some (.int .i64 x0) := m3 0
    have m1 : w3.cell? ⟨N, 1, none⟩ = some (.int .i64 x1) := m3 1
    have m2 : w3.cell? ⟨N, 2, none⟩ = some (.int .i64 x2) := m3 2
    have m3' : w3.cell? ⟨N, 3, none⟩ = some (.int .i64 x3) := m3 3
    have m4 : w3.cell? ⟨N, 4, none⟩ = some (.int .i64 x4) := m3 4
    have m5 : w3.cell? ⟨N, 5, none⟩ = some (.int .i64 x5) := m3 5
    have HN3 : Hid (N < w3.heap.size) := World.block_lt_of_cell? w3 ⟨N, 0, none⟩ m0
    clear hW3 m3 k3 HZ2 HK2 HB2 hN
    have HZ3 : Hid _ := hz3
    clear hz3
    go_wp2_with fail
    refine (HGM.out _).mono ?_; rintro x w4 ⟨rfl, k4⟩
    have kc := (Kp.cells k4).1
    have n0 := (kc N 0 HN3.out).trans m0
    have n1 := (kc N 1 HN3.out).trans m1
    have n2 := (kc N 2 HN3.out).trans m2
    have n3 := (kc N 3 HN3.out).trans m3'
    have n4 := (kc N 4 HN3.out).trans m4
    have n5 := (kc N 5 HN3.out).trans m5
    obtain ⟨hz, hf⟩ := keepZ (B + 1 + 1) HB3.out k4 HZ3.out.1 HZ3.out.2
    have HK4 : Hid (Kp w w4) := Kp.trans HK3.out k4
    have hBw : Hid (w.heap.size ≤ B + 1 + 1) := (show _ ≤ _ by have := HBw.out; omega)
    clear k4 kc m0 m1 m2 m3' m4 m5
    go_wp2
    obtain ⟨y0, y1, y2, y3, y4, y5⟩ := six_set w4 (B + 1 + 1) (.int .i64 0) (.int .i64 0) (.int .i64 0) (.int .i64 0) (.int .i64 0) (.int .i64 0) hz
    refine bodyPost_ret (v := .tuple #[affV 0 0 0 0 0 0, .bool false]) (by simp [results, Tryz.results5, go_sem, y0, y1, y2, y3, y4, y5]) rfl ⟨rfl, ?_⟩
    exact (((((HK4.out.setCell hBw.out _).setCell hBw.out _).setCell hBw.out _).setCell hBw.out _).setCell hBw.out _).setCell hBw.out _
end Go.Proofs.YtpfhnedklihdoaaGreatDoor
