/-
  What the specification's draw of the arguments of RunAt answers: some of them; each theorem names its conditions.
-/
import Derived.Test.YthlohbiocfeapaaDrS
namespace Go.Proofs.Ythlohbiocfeapaa
open Go.ChangeShapes Go.WideShapes Go.ChangeAt Go.RowKit
set_option linter.unusedVariables false

set_option maxRecDepth 100000 in
set_option maxHeartbeats 8000000 in
theorem drawRun_any (w : World) (ca : Option Addr) (len cap : Nat) (hl : len ≤ 9223372036854775807) (hd : Code w w.heap.size ca len) :
    Calls Try.prog 19 #[.slice ca len cap] w fun e w' => ∃ a c, ∃ (l : List Stp) (x s : Int), e = .returned (.tuple #[.slice a l.length c, .int .i64 x, .int .i64 s]) ∧ l.length ≤ c ∧ l.length ≤ 9 ∧ Stps w' a l ∧ Nw w w' := by
  obtain ⟨W, hW⟩ : ∃ W, w.alloc (.cells #[.slice ca len cap, .int .i64 0, .int .u64 0] 88) = W := ⟨_, rfl⟩
  have NW : Hid (Nw w W) := by show Nw _ _; rw [← hW]; exact QBnw _ _
  have C0 : Hid (Cur W w.heap.size ca len cap 0) := by
    show Cur _ _ _ _ _ _
    rw [← hW]
    exact ⟨0, 0, by omega, by omega, by omega, by simp, by simp, by simp, fun o => World.frozen?_alloc_at _ _ _ _ rfl, by simp⟩
  have D0 : Hid (∀ w', Nw w w' → Code w' w.heap.size ca len) := fun w' h => Code.below hd h
  have HW : Hid (_ = W) := hW
  clear hW hd
  go_enter Try.func19, Try.ntmps19
  go_wp2_with fail
  rw [HW.out]
  refine (pick_any W w.heap.size ca len cap 0 327680 hl (by omega) (by omega) (by omega) C0.out (D0.out _ NW.out)).mono ?_
  rintro e w1 ⟨v, rfl, v0, v1, hc1, hb1⟩
  have N1 : Hid (Nw w w1) := Below.trans NW.out hb1.below
  have C1 : Hid (Cur w1 w.heap.size ca len cap (0 + 2)) := hc1
  clear hc1 hb1
  go_wp2_with fail
  refine (one_any w1 w.heap.size ca len cap (0 + 2) 8 hl (by omega) (by omega) (by omega) C1.out (D0.out _ N1.out)).mono ?_
  rintro e w2 ⟨bb, rfl, hc2, hb2⟩
  have N2 : Hid (Nw w w2) := Below.trans N1.out hb2.below
  have C2 : Hid (Cur w2 w.heap.size ca len cap (0 + 2 + 2)) := hc2
  clear hc2 hb2
  cases bb with
  | false =>
    go_wp2_with fail
    refine (pick_any w2 w.heap.size ca len cap (0 + 2 + 2) 3 hl (by omega) (by omega) (by omega) C2.out (D0.out _ N2.out)).mono ?_
    rintro e w4 ⟨y, rfl, y0, y1, hc4, hb4⟩
    have N4 : Hid (Nw w w4) := Below.trans N2.out hb4.below
    have C4 : Hid (Cur w4 w.heap.size ca len cap (0 + 2 + 2 + 2)) := hc4
    clear hc4 hb4
    go_wp2_with fail
    refine (one_any w4 w.heap.size ca len cap (0 + 2 + 2 + 2) 30 hl (by omega) (by omega) (by omega) C4.out (D0.out _ N4.out)).mono ?_
    rintro e w5 ⟨b5, rfl, hc5, hb5⟩
    have N5 : Hid (Nw w w5) := Below.trans N4.out hb5.below
    have C5 : Hid (Cur w5 w.heap.size ca len cap (0 + 2 + 2 + 2 + 2)) := hc5
    have B5 : Hid (w.heap.size < w5.heap.size) := hc5.lt
    clear hc5 hb5
    cases b5 with
    | false =>
      go_wp2_with fail
      refine (stops_any w5 w.heap.size ca len cap (0 + 2 + 2 + 2 + 2) hl (by omega) C5.out (D0.out _ N5.out)).mono ?_
      rintro e w6 ⟨a, c, l, rfl, h1, h2, h3, h4⟩
      have H6 : Hid (l.length ≤ c ∧ l.length ≤ 9 ∧ Stps w6 a l ∧ Nw w w6) := ⟨h1, h2, h3, Below.trans N5.out (h4.below (by have := B5.out; omega))⟩
      clear h1 h2 h3 h4
      go_wp2
      refine bodyPost_ret (v := .tuple #[.slice a l.length c, .int .i64 (v - 131072), .int .i64 (1 + y)]) (by simp [results, Try.results19, go_sem]) rfl ⟨a, c, l, (v - 131072), 1 + y, rfl, H6.out⟩
    | true =>
      go_wp2_with fail
      refine (among_any _ w.heap.size w5.heap.size 2 [0, 4] rfl ca len cap (0 + 2 + 2 + 2 + 2) hl (by omega) (by omega) (by omega) (by have := B5.out; omega) (nums_alloc [0, 4] w5 3) (C5.out.alloc _ _) (Code.alloc (D0.out _ N5.out) (by have := B5.out; omega) _)).mono ?_
      rintro e w6 ⟨q, rfl, _, hc6, hb6⟩
      have N6 : Hid (Nw w w6) := Below.trans (Nw.trans N5.out (QBnw _ _)) hb6.below
      have C6 : Hid (Cur w6 w.heap.size ca len cap (0 + 2 + 2 + 2 + 2 + 2)) := hc6
      have B6 : Hid (w.heap.size < w6.heap.size) := hc6.lt
      clear hc6 hb6
      go_wp2_with fail
      refine (stops_any w6 w.heap.size ca len cap (0 + 2 + 2 + 2 + 2 + 2) hl (by omega) C6.out (D0.out _ N6.out)).mono ?_
      rintro e w7 ⟨a, c, l, rfl, h1, h2, h3, h4⟩
      have H7 : Hid (l.length ≤ c ∧ l.length ≤ 9 ∧ Stps w7 a l ∧ Nw w w7) := ⟨h1, h2, h3, Below.trans N6.out (h4.below (by have := B6.out; omega))⟩
      clear h1 h2 h3 h4
      go_wp2
      refine bodyPost_ret (v := .tuple #[.slice a l.length c, .int .i64 (v - 131072), .int .i64 q]) (by simp [results, Try.results19, go_sem]) rfl ⟨a, c, l, (v - 131072), q, rfl, H7.out⟩
  | true =>
    go_wp2_with fail
    refine (fixed_any w2 w.heap.size ca len cap (0 + 2 + 2) hl (by omega) C2.out (D0.out _ N2.out)).mono ?_
    rintro e w3 ⟨u, rfl, _, hc3, hb3⟩
    have N3 : Hid (Nw w w3) := Below.trans N2.out hb3
    have C3 : Hid (Cur w3 w.heap.size ca len cap (0 + 2 + 2 + 20)) := hc3
    clear hc3 hb3
    go_wp2_with fail
    refine (pick_any w3 w.heap.size ca len cap (0 + 2 + 2 + 20) 3 hl (by omega) (by omega) (by omega) C3.out (D0.out _ N3.out)).mono ?_
    rintro e w4 ⟨y, rfl, y0, y1, hc4, hb4⟩
    have N4 : Hid (Nw w w4) := Below.trans N3.out hb4.below
    have C4 : Hid (Cur w4 w.heap.size ca len cap (0 + 2 + 2 + 20 + 2)) := hc4
    clear hc4 hb4
    go_wp2_with fail
    refine (one_any w4 w.heap.size ca len cap (0 + 2 + 2 + 20 + 2) 30 hl (by omega) (by omega) (by omega) C4.out (D0.out _ N4.out)).mono ?_
    rintro e w5 ⟨b5, rfl, hc5, hb5⟩
    have N5 : Hid (Nw w w5) := Below.trans N4.out hb5.below
    have C5 : Hid (Cur w5 w.heap.size ca len cap (0 + 2 + 2 + 20 + 2 + 2)) := hc5
    have B5 : Hid (w.heap.size < w5.heap.size) := hc5.lt
    clear hc5 hb5
    cases b5 with
    | false =>
      go_wp2_with fail
      refine (stops_any w5 w.heap.size ca len cap (0 + 2 + 2 + 20 + 2 + 2) hl (by omega) C5.out (D0.out _ N5.out)).mono ?_
      rintro e w6 ⟨a, c, l, rfl, h1, h2, h3, h4⟩
      have H6 : Hid (l.length ≤ c ∧ l.length ≤ 9 ∧ Stps w6 a l ∧ Nw w w6) := ⟨h1, h2, h3, Below.trans N5.out (h4.below (by have := B5.out; omega))⟩
      clear h1 h2 h3 h4
      go_wp2
      refine bodyPost_ret (v := .tuple #[.slice a l.length c, .int .i64 u, .int .i64 (1 + y)]) (by simp [results, Try.results19, go_sem]) rfl ⟨a, c, l, u, 1 + y, rfl, H6.out⟩
    | true =>
      go_wp2_with fail
      refine (among_any _ w.heap.size w5.heap.size 2 [0, 4] rfl ca len cap (0 + 2 + 2 + 20 + 2 + 2) hl (by omega) (by omega) (by omega) (by have := B5.out; omega) (nums_alloc [0, 4] w5 3) (C5.out.alloc _ _) (Code.alloc (D0.out _ N5.out) (by have := B5.out; omega) _)).mono ?_
      rintro e w6 ⟨q, rfl, _, hc6, hb6⟩
      have N6 : Hid (Nw w w6) := Below.trans (Nw.trans N5.out (QBnw _ _)) hb6.below
      have C6 : Hid (Cur w6 w.heap.size ca len cap (0 + 2 + 2 + 20 + 2 + 2 + 2)) := hc6
      have B6 : Hid (w.heap.size < w6.heap.size) := hc6.lt
      clear hc6 hb6
      go_wp2_with fail
      refine (stops_any w6 w.heap.size ca len cap (0 + 2 + 2 + 20 + 2 + 2 + 2) hl (by omega) C6.out (D0.out _ N6.out)).mono ?_
      rintro e w7 ⟨a, c, l, rfl, h1, h2, h3, h4⟩
      have H7 : Hid (l.length ≤ c ∧ l.length ≤ 9 ∧ Stps w7 a l ∧ Nw w w7) := ⟨h1, h2, h3, Below.trans N6.out (h4.below (by have := B6.out; omega))⟩
      clear h1 h2 h3 h4
      go_wp2
      refine bodyPost_ret (v := .tuple #[.slice a l.length c, .int .i64 u, .int .i64 q]) (by simp [results, Try.results19, go_sem]) rfl ⟨a, c, l, u, q, rfl, H7.out⟩
end Go.Proofs.Ythlohbiocfeapaa
