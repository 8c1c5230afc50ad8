/-
  What the specification's draws of rows answer, and the draws of the law: some bytes, and nothing that was there is written; each theorem names its conditions.
  The draws of the law's arguments: some picture, some row; nothing that was there is written; each theorem names its conditions.
  What Adler32 answers, of the program and of the specification; each theorem names its conditions.
  What the filters guess, of the program and of the specification; each theorem names its conditions.
-/
import Derived.Test.YtaeicgfebeliiaaGreatDoorJAI
import Derived.Deep.DeepCutAuto
import Derived.Test.YtaeicgfebeliiaaGreatDoorJAA
import Derived.BigRegion
import Derived.Handy
namespace Go.Proofs.YtaeicgfebeliiaaGreatDoor
open Go.ChangeShapes Go.WideShapes Go.ChangeAt Go.RowKit
set_option linter.unusedVariables false

set_option maxRecDepth 100000 in
set_option maxHeartbeats 8000000 in
theorem rowOf_any (w : World) (B : Nat) (ca : Option Addr) (len cap n : Nat) (hl : len ≤ 9223372036854775807) (hn : n ≤ 10000) (hc : Cur w B ca len cap n) (hd : Code w B ca len) :
    Calls Tryz.prog 26 #[.pointer (some ⟨B, 0, none⟩)] w fun e w' => ∃ (v1 v2 : Value) (z1 z2 : List Int), e = .returned (.tuple #[v1, v2]) ∧ Own w' w.heap.size v1 z1 ∧ Own w' w.heap.size v2 z2 ∧ z1.length ≤ 1000 ∧ z2.length ≤ 1000 ∧ Byts z1 ∧ Byts z2 ∧ Cur w' B ca len cap (n + 50000) ∧ Gr B w w' := by
  have hB := hc.lt
  have HC : Hid (Cur w B ca len cap n) := hc
  have HD : Hid (∀ w1, Gr B w w1 → Code w1 B ca len) := fun w1 g => Code.below hd (g.below (by omega))
  clear hc hd
  obtain ⟨W, hW⟩ : ∃ W, w.heap.size = W := ⟨_, rfl⟩
  have HW : Hid (w.heap.size = W) := hW
  rw [hW] at hB ⊢
  clear hW
  go_enter Tryz.func26, Tryz.ntmps26
  go_wp2_with fail
  refine (pick_any w B ca len cap n 8 hl (by omega) (by omega) (by omega) HC.out (HD.out w (Gr.refl _ _))).mono ?_
  rintro e w1 ⟨x, rfl, x0, x1, hc1, hb1⟩
  obtain ⟨A, rfl⟩ := Int.eq_ofNat_of_zero_le x0
  have C1 : Hid (Cur w1 B ca len cap (n + 2)) := hc1
  have G1 : Hid (Gr B w w1) := Gr.of_sel hb1
  clear hc1 hb1 HC
  go_wp2_with fail
  refine (one_any w1 B ca len cap _ 20 hl (by omega) (by omega) (by omega) C1.out (HD.out w1 G1.out)).mono ?_
  rintro e w3 ⟨o, rfl, hc1, hb1⟩
  have C3 : Hid (Cur w3 B ca len cap (n + 4)) := hc1
  have G3 : Hid (Gr B w w3) := G1.out.trans (Gr.of_sel hb1)
  clear hc1 hb1 C1 G1
  cases o with
  | false =>
    have ha : (1 : Int) + (A : Int) = ((1 + A : Nat) : Int) := by omega
    obtain ⟨a, hae⟩ : ∃ a, 1 + A = a := ⟨_, rfl⟩
    rw [hae] at ha
    have ha37 : a ≤ 37 := by omega
    clear hae
    go_wp2_with fail
    refine (pixelsOf_any w3 B ca len cap _ a hl (by omega) (by omega) C3.out (HD.out w3 G3.out)).mono ?_
    rintro e w4 ⟨z1, rfl, hzl1, o4, b4, c4, g4⟩
    have hsz3 : W ≤ w3.heap.size := by have := G3.out.size; rw [HW.out] at this; exact this
    obtain ⟨g1, hg1⟩ : ∃ g, w3.heap.size = g := ⟨_, rfl⟩
    rw [hg1] at o4 ⊢
    obtain ⟨M, hM⟩ : ∃ M, 4 * a = M := ⟨_, rfl⟩
    rw [hM] at o4 hzl1 ⊢
    have O4 : Hid (Own w4 W (.slice (some ⟨g1, 0, none⟩) M M) z1) := Own.base o4 (by omega)
    have G4 : Hid (Gr B w w4) := G3.out.trans g4
    have C4 : Hid (Cur w4 B ca len cap (n + 4 + 2 + 10000)) := c4.mono (by omega)
    have Y1 : Hid (Byts z1) := b4
    have hg1w : g1 < w4.heap.size := (Own.lt o4 g1 rfl).2
    clear o4 b4 c4 g4 hg1 C3 G3
    go_wp2_with fail
    refine (pixelsOf_any w4 B ca len cap _ a hl (by omega) (by omega) C4.out (HD.out w4 G4.out)).mono ?_
    rintro e w5 ⟨z2, rfl, hzl2, o5, b5, c5, g5⟩
    have hsz4 : W ≤ w4.heap.size := by have := G4.out.size; rw [HW.out] at this; exact this
    have P5 : Hid (Own w5 W (.slice (some ⟨g1, 0, none⟩) M M) z1) := O4.out.gra g5 hB
    obtain ⟨g2, hg2⟩ : ∃ g, w4.heap.size = g := ⟨_, rfl⟩
    rw [hg2, hM] at o5 ⊢
    rw [hM] at hzl2
    have O5 : Hid (Own w5 W (.slice (some ⟨g2, 0, none⟩) M M) z2) := Own.base o5 (by omega)
    have G5 : Hid (Gr B w w5) := G4.out.trans g5
    have C5 : Hid (Cur w5 B ca len cap (n + 4 + 2 + 10000 + 10000)) := c5
    have Y5 : Hid (Byts z2) := b5
    have hne2 : g2 ≠ g1 := by omega
    clear o5 b5 c5 g5 hg2 C4 G4 O4
    go_wp2_with fail
    refine (one_any w5 B ca len cap _ 8 hl (by omega) (by omega) (by omega) C5.out (HD.out w5 G5.out)).mono ?_
    rintro e w6 ⟨o2, rfl, hc6, hb6⟩
    have G6 : Hid (Gr B w w6) := G5.out.trans (Gr.of_sel hb6)
    have C6 : Hid (Cur w6 B ca len cap (n + 4 + 2 + 10000 + 10000 + 2)) := hc6
    have P6 : Hid (Own w6 W (.slice (some ⟨g1, 0, none⟩) M M) z1) := P5.out.gra (Gr.of_sel hb6) hB
    have O6 : Hid (Own w6 W (.slice (some ⟨g2, 0, none⟩) M M) z2) := O5.out.gra (Gr.of_sel hb6) hB
    have hsz6 : W ≤ w6.heap.size := by have := G6.out.size; rw [HW.out] at this; exact this
    have hg6 : g1 < w6.heap.size := (Own.lt P6.out g1 rfl).2
    clear hc6 hb6 P5 O5 C5 G5
    cases o2 with
    | false =>
      have hne : ¬ g2 = g1 := hne2
      have hz2 : z2.length ≤ 1000 := by omega
      have Y2 : Hid (Byts z2) := Y5.out
      go_wp2_with fail
      refine (one_any w6 B ca len cap _ 20 hl (by omega) (by omega) (by omega) C6.out (HD.out w6 G6.out)).mono ?_
      rintro e w8 ⟨o3, rfl, hc8, hb8⟩
      have G8 : Hid (Gr B w w8) := G6.out.trans (Gr.of_sel hb8)
      have P8 : Hid (Own w8 W (.slice (some ⟨g1, 0, none⟩) M M) z1) := P6.out.gra (Gr.of_sel hb8) hB
      have Q8 : Hid (Own w8 W (.slice (some ⟨g2, 0, none⟩) M M) z2) := O6.out.gra (Gr.of_sel hb8) hB
      have C8 : Hid (Cur w8 B ca len cap (n + 50000)) := Cur.mono (n := n + 4 + 2 + 10000 + 10000 + 2 + 2) (Cur.mono hc8 (by omega)) (by omega)
      have hsz8 : W ≤ w8.heap.size := by have := G8.out.size; rw [HW.out] at this; exact this
      clear hc8 hb8 P6 O6
      cases o3 with
      | false =>
        go_wp2
        go_ret2
        exact ⟨_, _, z1, z2, rfl, P8.out, Q8.out, by omega, hz2, Y1.out, Y2.out, C8.out, G8.out⟩
      | true =>
        have HN : ∀ o, Hid (Nw w8 (w8.alloc o)) := fun o => (Below.refl _ _).alloc (Nat.le_refl _) o
        have hol : z1.length ≤ 1000000 := by omega
        go_wp2_with (at_builtin; (refine wp_b _ rfl _ _ rfl W _ z1 1 rfl (Own.nw P8.out (HN _).out) _ rfl ?c1 hol ?c3 ?_))
        case c1 => simp
        case c3 => exact Nat.le_trans hsz8 (Below.size (HN _).out)
        intro v' w' h1 h2
        have G9 : Hid (Gr B w w') := (G8.out.alloc _).exta h2 (fun x e => by rw [HW.out]; exact (Own.lt P8.out x e).1)
        have C9 : Hid (Cur w' B ca len cap (n + 50000)) := (C8.out.alloc _ _).ext h2 (fun e => by have := (Own.lt P8.out B e).1; omega)
        have Q9 : Hid (Own w' W (.slice (some ⟨g2, 0, none⟩) M M) z2) := Own.keep (Own.nw Q8.out (HN _).out) h2 (Or.inr (fun e => hne (by injection e)))
        have P9 : Hid (Own w' W v' (z1 ++ [1])) := h1
        obtain ⟨sa', sc', ev⟩ := Own.shape h1
        subst ev
        clear h1 h2
        go_wp2
        go_ret2
        exact ⟨_, _, z1 ++ [1], z2, rfl, P9.out, Q9.out, by rw [List.length_append]; simp; omega, hz2, Y1.out.app (Byts.one (by omega) (by omega)), Y2.out, C9.out, G9.out⟩
    | true =>
      have h4a : (4 : Int) * (a : Int) = (M : Int) := by omega
      have hmk := run_mk 22 5 (.int .u8 0) 1 1 Tryz.underlying22 (by kernel_rfl) M (by omega) (by omega)
      have ho0 := replicate_own w6 M (by omega)
      obtain ⟨C, hC⟩ : ∃ C, madeCells (Value.int .u8 0).cells (M * 1) = C := ⟨_, rfl⟩
      rw [hC] at hmk ho0
      obtain ⟨W7, hW7⟩ : ∃ W', w6.alloc (.cells C 5) = W' := ⟨_, rfl⟩
      have HW7 : Hid (_ = W7) := hW7
      rw [hW7] at ho0
      have G7 : Hid (Gr B w W7) := by show Gr _ _ _; rw [← hW7]; exact G6.out.alloc _
      have C7 : Hid (Cur W7 B ca len cap (n + 4 + 2 + 10000 + 10000 + 2)) := by show Cur _ _ _ _ _ _; rw [← hW7]; exact C6.out.alloc _ _
      have n7 : Nw w6 W7 := by rw [← hW7]; exact (Below.refl _ _).alloc (Nat.le_refl _) _
      have P7 : Hid (Own W7 W (.slice (some ⟨g1, 0, none⟩) M M) z1) := Own.nw P6.out n7
      obtain ⟨g7, hg7⟩ : ∃ g, w6.heap.size = g := ⟨_, rfl⟩
      rw [hg7] at ho0 hg6
      have HG7 : Hid (w6.heap.size = g7) := hg7
      have Q7 : Hid (Own W7 W (.slice (some ⟨g7, 0, none⟩) M M) (List.replicate M 0)) := Own.base ho0 (by omega)
      have hne : ¬ g7 = g1 := by omega
      have hz2 : (List.replicate M (0 : Int)).length ≤ 1000 := by rw [List.length_replicate]; omega
      have Y2 : Hid (Byts (List.replicate M 0)) := fun z hz => by rw [List.eq_of_mem_replicate hz]; omega
      have P6 : Hid (Own W7 W (.slice (some ⟨g1, 0, none⟩) M M) z1) := P7.out
      clear n7 ho0 hC hW7 hg7 O6
      go_upto_region 8 with fail
      rw [HW7.out, HG7.out]
      go_wp2_with fail
      refine (one_any W7 B ca len cap _ 20 hl (by omega) (by omega) (by omega) C7.out (HD.out W7 G7.out)).mono ?_
      rintro e w8 ⟨o3, rfl, hc8, hb8⟩
      have G8 : Hid (Gr B w w8) := G7.out.trans (Gr.of_sel hb8)
      have P8 : Hid (Own w8 W (.slice (some ⟨g1, 0, none⟩) M M) z1) := P6.out.gra (Gr.of_sel hb8) hB
      have Q8 : Hid (Own w8 W (.slice (some ⟨g7, 0, none⟩) M M) (List.replicate M 0)) := Q7.out.gra (Gr.of_sel hb8) hB
      have C8 : Hid (Cur w8 B ca len cap (n + 50000)) := Cur.mono (n := n + 4 + 2 + 10000 + 10000 + 2 + 2) (Cur.mono hc8 (by omega)) (by omega)
      have hsz8 : W ≤ w8.heap.size := by have := G8.out.size; rw [HW.out] at this; exact this
      clear hc8 hb8 P6 Q7
      cases o3 with
      | false =>
        go_wp2
        go_ret2
        exact ⟨_, _, z1, (List.replicate M 0), rfl, P8.out, Q8.out, by omega, hz2, Y1.out, Y2.out, C8.out, G8.out⟩
      | true =>
        have HN : ∀ o, Hid (Nw w8 (w8.alloc o)) := fun o => (Below.refl _ _).alloc (Nat.le_refl _) o
        have hol : z1.length ≤ 1000000 := by omega
        go_wp2_with (at_builtin; (refine wp_b _ rfl _ _ rfl W _ z1 1 rfl (Own.nw P8.out (HN _).out) _ rfl ?c1 hol ?c3 ?_))
        case c1 => simp
        case c3 => exact Nat.le_trans hsz8 (Below.size (HN _).out)
        intro v' w' h1 h2
        have G9 : Hid (Gr B w w') := (G8.out.alloc _).exta h2 (fun x e => by rw [HW.out]; exact (Own.lt P8.out x e).1)
        have C9 : Hid (Cur w' B ca len cap (n + 50000)) := (C8.out.alloc _ _).ext h2 (fun e => by have := (Own.lt P8.out B e).1; omega)
        have Q9 : Hid (Own w' W (.slice (some ⟨g7, 0, none⟩) M M) (List.replicate M 0)) := Own.keep (Own.nw Q8.out (HN _).out) h2 (Or.inr (fun e => hne (by injection e)))
        have P9 : Hid (Own w' W v' (z1 ++ [1])) := h1
        obtain ⟨sa', sc', ev⟩ := Own.shape h1
        subst ev
        clear h1 h2
        go_wp2
        go_ret2
        exact ⟨_, _, z1 ++ [1], (List.replicate M 0), rfl, P9.out, Q9.out, by rw [List.length_append]; simp; omega, hz2, Y1.out.app (Byts.one (by omega) (by omega)), Y2.out, C9.out, G9.out⟩
  | true =>
    go_wp2_with fail
    refine (among_lit w3 B [0, 36, 37] 3 ca len cap _ hl (by omega) (by decide) (by decide) C3.out (HD.out w3 G3.out)).mono ?_
    rintro e w3 ⟨z, rfl, hz, hc1, hb1⟩
    have C3 : Hid (Cur w3 B ca len cap (n + 6)) := hc1
    have G3 : Hid (Gr B w w3) := G3.out.trans hb1
    obtain ⟨a, rfl, ha37⟩ : ∃ a : Nat, z = (a : Int) ∧ a ≤ 37 := by
      simp at hz
      rcases hz with rfl | rfl | rfl
      · exact ⟨0, rfl, by omega⟩
      · exact ⟨36, rfl, by omega⟩
      · exact ⟨37, rfl, by omega⟩
    clear hc1 hb1 hz
    go_wp2_with fail
    refine (pixelsOf_any w3 B ca len cap _ a hl (by omega) (by omega) C3.out (HD.out w3 G3.out)).mono ?_
    rintro e w4 ⟨z1, rfl, hzl1, o4, b4, c4, g4⟩
    have hsz3 : W ≤ w3.heap.size := by have := G3.out.size; rw [HW.out] at this; exact this
    obtain ⟨g1, hg1⟩ : ∃ g, w3.heap.size = g := ⟨_, rfl⟩
    rw [hg1] at o4 ⊢
    obtain ⟨M, hM⟩ : ∃ M, 4 * a = M := ⟨_, rfl⟩
    rw [hM] at o4 hzl1 ⊢
    have O4 : Hid (Own w4 W (.slice (some ⟨g1, 0, none⟩) M M) z1) := Own.base o4 (by omega)
    have G4 : Hid (Gr B w w4) := G3.out.trans g4
    have C4 : Hid (Cur w4 B ca len cap (n + 4 + 2 + 10000)) := c4.mono (by omega)
    have Y1 : Hid (Byts z1) := b4
    have hg1w : g1 < w4.heap.size := (Own.lt o4 g1 rfl).2
    clear o4 b4 c4 g4 hg1 C3 G3
    go_wp2_with fail
    refine (pixelsOf_any w4 B ca len cap _ a hl (by omega) (by omega) C4.out (HD.out w4 G4.out)).mono ?_
    rintro e w5 ⟨z2, rfl, hzl2, o5, b5, c5, g5⟩
    have hsz4 : W ≤ w4.heap.size := by have := G4.out.size; rw [HW.out] at this; exact this
    have P5 : Hid (Own w5 W (.slice (some ⟨g1, 0, none⟩) M M) z1) := O4.out.gra g5 hB
    obtain ⟨g2, hg2⟩ : ∃ g, w4.heap.size = g := ⟨_, rfl⟩
    rw [hg2, hM] at o5 ⊢
    rw [hM] at hzl2
    have O5 : Hid (Own w5 W (.slice (some ⟨g2, 0, none⟩) M M) z2) := Own.base o5 (by omega)
    have G5 : Hid (Gr B w w5) := G4.out.trans g5
    have C5 : Hid (Cur w5 B ca len cap (n + 4 + 2 + 10000 + 10000)) := c5
    have Y5 : Hid (Byts z2) := b5
    have hne2 : g2 ≠ g1 := by omega
    clear o5 b5 c5 g5 hg2 C4 G4 O4
    go_wp2_with fail
    refine (one_any w5 B ca len cap _ 8 hl (by omega) (by omega) (by omega) C5.out (HD.out w5 G5.out)).mono ?_
    rintro e w6 ⟨o2, rfl, hc6, hb6⟩
    have G6 : Hid (Gr B w w6) := G5.out.trans (Gr.of_sel hb6)
    have C6 : Hid (Cur w6 B ca len cap (n + 4 + 2 + 10000 + 10000 + 2)) := hc6
    have P6 : Hid (Own w6 W (.slice (some ⟨g1, 0, none⟩) M M) z1) := P5.out.gra (Gr.of_sel hb6) hB
    have O6 : Hid (Own w6 W (.slice (some ⟨g2, 0, none⟩) M M) z2) := O5.out.gra (Gr.of_sel hb6) hB
    have hsz6 : W ≤ w6.heap.size := by have := G6.out.size; rw [HW.out] at this; exact this
    have hg6 : g1 < w6.heap.size := (Own.lt P6.out g1 rfl).2
    clear hc6 hb6 P5 O5 C5 G5
    cases o2 with
    | false =>
      have hne : ¬ g2 = g1 := hne2
      have hz2 : z2.length ≤ 1000 := by omega
      have Y2 : Hid (Byts z2) := Y5.out
      go_wp2_with fail
      refine (one_any w6 B ca len cap _ 20 hl (by omega) (by omega) (by omega) C6.out (HD.out w6 G6.out)).mono ?_
      rintro e w8 ⟨o3, rfl, hc8, hb8⟩
      have G8 : Hid (Gr B w w8) := G6.out.trans (Gr.of_sel hb8)
      have P8 : Hid (Own w8 W (.slice (some ⟨g1, 0, none⟩) M M) z1) := P6.out.gra (Gr.of_sel hb8) hB
      have Q8 : Hid (Own w8 W (.slice (some ⟨g2, 0, none⟩) M M) z2) := O6.out.gra (Gr.of_sel hb8) hB
      have C8 : Hid (Cur w8 B ca len cap (n + 50000)) := Cur.mono (n := n + 4 + 2 + 10000 + 10000 + 2 + 2) (Cur.mono hc8 (by omega)) (by omega)
      have hsz8 : W ≤ w8.heap.size := by have := G8.out.size; rw [HW.out] at this; exact this
      clear hc8 hb8 P6 O6
      cases o3 with
      | false =>
        go_wp2
        go_ret2
        exact ⟨_, _, z1, z2, rfl, P8.out, Q8.out, by omega, hz2, Y1.out, Y2.out, C8.out, G8.out⟩
      | true =>
        have HN : ∀ o, Hid (Nw w8 (w8.alloc o)) := fun o => (Below.refl _ _).alloc (Nat.le_refl _) o
        have hol : z1.length ≤ 1000000 := by omega
        go_wp2_with (at_builtin; (refine wp_b _ rfl _ _ rfl W _ z1 1 rfl (Own.nw P8.out (HN _).out) _ rfl ?c1 hol ?c3 ?_))
        case c1 => simp
        case c3 => exact Nat.le_trans hsz8 (Below.size (HN _).out)
        intro v' w' h1 h2
        have G9 : Hid (Gr B w w') := (G8.out.alloc _).exta h2 (fun x e => by rw [HW.out]; exact (Own.lt P8.out x e).1)
        have C9 : Hid (Cur w' B ca len cap (n + 50000)) := (C8.out.alloc _ _).ext h2 (fun e => by have := (Own.lt P8.out B e).1; omega)
        have Q9 : Hid (Own w' W (.slice (some ⟨g2, 0, none⟩) M M) z2) := Own.keep (Own.nw Q8.out (HN _).out) h2 (Or.inr (fun e => hne (by injection e)))
        have P9 : Hid (Own w' W v' (z1 ++ [1])) := h1
        obtain ⟨sa', sc', ev⟩ := Own.shape h1
        subst ev
        clear h1 h2
        go_wp2
        go_ret2
        exact ⟨_, _, z1 ++ [1], z2, rfl, P9.out, Q9.out, by rw [List.length_append]; simp; omega, hz2, Y1.out.app (Byts.one (by omega) (by omega)), Y2.out, C9.out, G9.out⟩
    | true =>
      have h4a : (4 : Int) * (a : Int) = (M : Int) := by omega
      have hmk := run_mk 22 5 (.int .u8 0) 1 1 Tryz.underlying22 (by kernel_rfl) M (by omega) (by omega)
      have ho0 := replicate_own w6 M (by omega)
      obtain ⟨C, hC⟩ : ∃ C, madeCells (Value.int .u8 0).cells (M * 1) = C := ⟨_, rfl⟩
      rw [hC] at hmk ho0
      obtain ⟨W7, hW7⟩ : ∃ W', w6.alloc (.cells C 5) = W' := ⟨_, rfl⟩
      have HW7 : Hid (_ = W7) := hW7
      rw [hW7] at ho0
      have G7 : Hid (Gr B w W7) := by show Gr _ _ _; rw [← hW7]; exact G6.out.alloc _
      have C7 : Hid (Cur W7 B ca len cap (n + 4 + 2 + 10000 + 10000 + 2)) := by show Cur _ _ _ _ _ _; rw [← hW7]; exact C6.out.alloc _ _
      have n7 : Nw w6 W7 := by rw [← hW7]; exact (Below.refl _ _).alloc (Nat.le_refl _) _
      have P7 : Hid (Own W7 W (.slice (some ⟨g1, 0, none⟩) M M) z1) := Own.nw P6.out n7
      obtain ⟨g7, hg7⟩ : ∃ g, w6.heap.size = g := ⟨_, rfl⟩
      rw [hg7] at ho0 hg6
      have HG7 : Hid (w6.heap.size = g7) := hg7
      have Q7 : Hid (Own W7 W (.slice (some ⟨g7, 0, none⟩) M M) (List.replicate M 0)) := Own.base ho0 (by omega)
      have hne : ¬ g7 = g1 := by omega
      have hz2 : (List.replicate M (0 : Int)).length ≤ 1000 := by rw [List.length_replicate]; omega
      have Y2 : Hid (Byts (List.replicate M 0)) := fun z hz => by rw [List.eq_of_mem_replicate hz]; omega
      have P6 : Hid (Own W7 W (.slice (some ⟨g1, 0, none⟩) M M) z1) := P7.out
      clear n7 ho0 hC hW7 hg7 O6
      go_upto_region 8 with fail
      rw [HW7.out, HG7.out]
      go_wp2_with fail
      refine (one_any W7 B ca len cap _ 20 hl (by omega) (by omega) (by omega) C7.out (HD.out W7 G7.out)).mono ?_
      rintro e w8 ⟨o3, rfl, hc8, hb8⟩
      have G8 : Hid (Gr B w w8) := G7.out.trans (Gr.of_sel hb8)
      have P8 : Hid (Own w8 W (.slice (some ⟨g1, 0, none⟩) M M) z1) := P6.out.gra (Gr.of_sel hb8) hB
      have Q8 : Hid (Own w8 W (.slice (some ⟨g7, 0, none⟩) M M) (List.replicate M 0)) := Q7.out.gra (Gr.of_sel hb8) hB
      have C8 : Hid (Cur w8 B ca len cap (n + 50000)) := Cur.mono (n := n + 4 + 2 + 10000 + 10000 + 2 + 2) (Cur.mono hc8 (by omega)) (by omega)
      have hsz8 : W ≤ w8.heap.size := by have := G8.out.size; rw [HW.out] at this; exact this
      clear hc8 hb8 P6 Q7
      cases o3 with
      | false =>
        go_wp2
        go_ret2
        exact ⟨_, _, z1, (List.replicate M 0), rfl, P8.out, Q8.out, by omega, hz2, Y1.out, Y2.out, C8.out, G8.out⟩
      | true =>
        have HN : ∀ o, Hid (Nw w8 (w8.alloc o)) := fun o => (Below.refl _ _).alloc (Nat.le_refl _) o
        have hol : z1.length ≤ 1000000 := by omega
        go_wp2_with (at_builtin; (refine wp_b _ rfl _ _ rfl W _ z1 1 rfl (Own.nw P8.out (HN _).out) _ rfl ?c1 hol ?c3 ?_))
        case c1 => simp
        case c3 => exact Nat.le_trans hsz8 (Below.size (HN _).out)
        intro v' w' h1 h2
        have G9 : Hid (Gr B w w') := (G8.out.alloc _).exta h2 (fun x e => by rw [HW.out]; exact (Own.lt P8.out x e).1)
        have C9 : Hid (Cur w' B ca len cap (n + 50000)) := (C8.out.alloc _ _).ext h2 (fun e => by have := (Own.lt P8.out B e).1; omega)
        have Q9 : Hid (Own w' W (.slice (some ⟨g7, 0, none⟩) M M) (List.replicate M 0)) := Own.keep (Own.nw Q8.out (HN _).out) h2 (Or.inr (fun e => hne (by injection e)))
        have P9 : Hid (Own w' W v' (z1 ++ [1])) := h1
        obtain ⟨sa', sc', ev⟩ := Own.shape h1
        subst ev
        clear h1 h2
        go_wp2
        go_ret2
        exact ⟨_, _, z1 ++ [1], (List.replicate M 0), rfl, P9.out, Q9.out, by rw [List.length_append]; simp; omega, hz2, Y1.out.app (Byts.one (by omega) (by omega)), Y2.out, C9.out, G9.out⟩
end Go.Proofs.YtaeicgfebeliiaaGreatDoor
namespace Go.Proofs.YtaeicgfebeliiaaGreatDoor
open Go.ChangeShapes Go.WideShapes Go.ChangeAt Go.RowKit
set_option linter.unusedVariables false

theorem drawEnc_any (w : World) (ca : Option Addr) (len cap : Nat) (hl : len ≤ 9223372036854775807) (hd : Code w w.heap.size ca len) :
    Calls Tryz.prog 4 #[.slice ca len cap] w fun e w' => ∃ (a b : Nat) (v : Value) (zs : List Int), e = .returned (.tuple #[.int .i64 (a : Int), .int .i64 (b : Int), v]) ∧ Own w' w.heap.size v zs ∧ zs.length ≤ 1000 ∧ Byts zs ∧ Nw w w' := by
  obtain ⟨W, hW⟩ : ∃ W, w.alloc (.cells #[.slice ca len cap, .int .i64 0, .int .u64 0] 36) = W := ⟨_, rfl⟩
  have NW : Hid (Nw w W) := by show Nw _ _; rw [← hW]; exact (Below.refl _ _).alloc (Nat.le_refl _) _
  have C0 : Hid (Cur W w.heap.size ca len cap 0) := by
    show Cur _ _ _ _ _ _
    rw [← hW]
    exact ⟨0, 0, by omega, by omega, by omega, by simp, by simp, by simp, fun o => World.frozen?_alloc_at _ _ _ _ rfl, by simp⟩
  have D0 : Hid (Code W w.heap.size ca len) := Code.below hd NW.out
  have HW : Hid (_ = W) := hW
  clear hW hd
  go_enter Tryz.func4, Tryz.ntmps4
  go_wp2_with fail
  rw [HW.out]
  refine (picture_any W w.heap.size ca len cap 0 hl (by omega) C0.out D0.out).mono ?_
  rintro e w1 ⟨a, b, v, zs, rfl, h1, h2, h3, h4⟩
  have O1 : Hid (Own w1 w.heap.size v zs) := Own.base h1 (Below.size NW.out)
  have B1 : Hid (Byts zs) := h3
  have N1 : Hid (Nw w w1) := Below.trans NW.out (h4.below (Below.size NW.out))
  obtain ⟨sa, sc, rfl⟩ := h1.shape
  clear h1 h3 h4
  go_wp2
  go_returns
  exact ⟨a, b, _, zs, rfl, O1.out, h2, B1.out, N1.out⟩
theorem drawFil_any (w : World) (ca : Option Addr) (len cap : Nat) (hl : len ≤ 9223372036854775807) (hd : Code w w.heap.size ca len) :
    Calls Tryz.prog 8 #[.slice ca len cap] w fun e w' => ∃ (k : Int) (v1 v2 : Value) (z1 z2 : List Int), e = .returned (.tuple #[.int .i64 k, v1, v2]) ∧ Own w' w.heap.size v1 z1 ∧ Own w' w.heap.size v2 z2 ∧ z1.length ≤ 1000 ∧ z2.length ≤ 1000 ∧ Byts z1 ∧ Byts z2 ∧ Nw w w' := by
  obtain ⟨W, hW⟩ : ∃ W, w.alloc (.cells #[.slice ca len cap, .int .i64 0, .int .u64 0] 36) = W := ⟨_, rfl⟩
  have NW : Hid (Nw w W) := by show Nw _ _; rw [← hW]; exact (Below.refl _ _).alloc (Nat.le_refl _) _
  have hBW : w.heap.size < W.heap.size := by rw [← hW]; simp
  have C0 : Hid (Cur W w.heap.size ca len cap 0) := by
    show Cur _ _ _ _ _ _
    rw [← hW]
    exact ⟨0, 0, by omega, by omega, by omega, by simp, by simp, by simp, fun o => World.frozen?_alloc_at _ _ _ _ rfl, by simp⟩
  have D0 : Hid (Code W w.heap.size ca len) := Code.below hd NW.out
  have HD : Hid (∀ w1, Gr w.heap.size W w1 → Code w1 w.heap.size ca len) := fun w1 g => Code.below D0.out (g.below (by omega))
  have HW : Hid (_ = W) := hW
  clear hW hd
  go_enter Tryz.func8, Tryz.ntmps8
  go_wp2_with fail
  rw [HW.out]
  refine (rowOf_any W w.heap.size ca len cap 0 hl (by omega) C0.out D0.out).mono ?_
  rintro e w1 ⟨v1, v2, z1, z2, rfl, h1, h2, l1, l2, b1, b2, hc, hg⟩
  have P1 : Hid (Own w1 W.heap.size v1 z1) := h1
  have Q1 : Hid (Own w1 W.heap.size v2 z2) := h2
  have B1 : Hid (Byts z1) := b1
  have B2 : Hid (Byts z2) := b2
  have C1 : Hid (Cur w1 w.heap.size ca len cap (0 + 50000)) := hc
  have G1 : Hid (Gr w.heap.size W w1) := hg
  obtain ⟨sa, sc, rfl⟩ := h1.shape
  obtain ⟨sa2, sc2, rfl⟩ := h2.shape
  clear h1 h2 b1 b2 hc hg
  go_wp2_with fail
  refine (pick_any w1 w.heap.size ca len cap _ 5 hl (by omega) (by omega) (by omega) C1.out (HD.out w1 G1.out)).mono ?_
  rintro e w2 ⟨k, rfl, k0, k1, hc1, hb1⟩
  have C2 : Hid (Cur w2 w.heap.size ca len cap (0 + 50000 + 2)) := hc1
  have G2 : Hid (Gr w.heap.size W w2) := G1.out.trans (Gr.of_sel hb1)
  have P2 : Hid (Own w2 W.heap.size (.slice sa z1.length sc) z1) := P1.out.gra (Gr.of_sel hb1) hBW
  have Q2 : Hid (Own w2 W.heap.size (.slice sa2 z2.length sc2) z2) := Q1.out.gra (Gr.of_sel hb1) hBW
  clear hc1 hb1 C1 G1 P1 Q1
  go_wp2_with fail
  refine (one_any w2 w.heap.size ca len cap _ 16 hl (by omega) (by omega) (by omega) C2.out (HD.out w2 G2.out)).mono ?_
  rintro e w3 ⟨o, rfl, hc1, hb1⟩
  have C3 : Hid (Cur w3 w.heap.size ca len cap (0 + 50000 + 4)) := hc1
  have G3 : Hid (Gr w.heap.size W w3) := G2.out.trans (Gr.of_sel hb1)
  have P3 : Hid (Own w3 W.heap.size (.slice sa z1.length sc) z1) := P2.out.gra (Gr.of_sel hb1) hBW
  have Q3 : Hid (Own w3 W.heap.size (.slice sa2 z2.length sc2) z2) := Q2.out.gra (Gr.of_sel hb1) hBW
  clear hc1 hb1 C2 G2 P2 Q2
  cases o with
  | false =>
    go_wp2
    go_returns
    exact ⟨k, _, _, z1, z2, rfl, Own.base P3.out (by omega), Own.base Q3.out (by omega), l1, l2, B1.out, B2.out, Below.trans NW.out (G3.out.below (by omega))⟩
  | true =>
    go_wp2_with fail
    refine (among_lit w3 w.heap.size [-1, 5] 3 ca len cap _ hl (by omega) (by decide) (by decide) C3.out (HD.out w3 G3.out)).mono ?_
    rintro e w4 ⟨z, rfl, hz, hc1, hb1⟩
    have G4 : Hid (Gr w.heap.size W w4) := G3.out.trans hb1
    have P4 : Hid (Own w4 W.heap.size (.slice sa z1.length sc) z1) := P3.out.gra hb1 hBW
    have Q4 : Hid (Own w4 W.heap.size (.slice sa2 z2.length sc2) z2) := Q3.out.gra hb1 hBW
    clear hc1 hb1 hz
    go_wp2
    go_returns
    exact ⟨z, _, _, z1, z2, rfl, Own.base P4.out (by omega), Own.base Q4.out (by omega), l1, l2, B1.out, B2.out, Below.trans NW.out (G4.out.below (by omega))⟩
end Go.Proofs.YtaeicgfebeliiaaGreatDoor
namespace Go.Proofs.YtaeicgfebeliiaaGreatDoor
open Go.ChangeShapes Go.WideShapes Go.ChangeAt Go.RowKit
set_option linter.unusedVariables false

def adlStep (p : Int × Int) (z : Int) : Int × Int := ((p.1 + z) % 65521, (p.2 + (p.1 + z) % 65521) % 65521)
def adl (zs : List Int) : Int × Int := zs.foldl adlStep (1, 0)
def adler (zs : List Int) : Int := (adl zs).2 * 65536 + (adl zs).1
theorem adl_snoc (zs : List Int) (z : Int) : adl (zs ++ [z]) = adlStep (adl zs) z := by simp [adl]
theorem take_snoc (zs : List Int) (k : Nat) (h : k < zs.length) : zs.take (k + 1) = zs.take k ++ [zs.getD k 0] := by
  rw [List.take_succ_eq_append_getElem h]; simp [h]
theorem adl_bd (zs : List Int) : 0 ≤ (adl zs).1 ∧ (adl zs).1 < 65521 ∧ 0 ≤ (adl zs).2 ∧ (adl zs).2 < 65521 := by
  rcases List.eq_nil_or_concat zs with rfl | ⟨ys, z, rfl⟩
  · simp [adl]
  · rw [List.concat_eq_append, adl_snoc]; simp only [adlStep]; omega
theorem adler_bd (zs : List Int) : 0 ≤ adler zs ∧ adler zs < 4294967296 := by
  have := adl_bd zs; unfold adler; omega
theorem or_u32 (h l : Int) (h0 : 0 ≤ h) (h1 : h < 65536) (l0 : 0 ≤ l) (l1 : l < 65536) : bits .or .u32 (h * 65536) l = h * 65536 + l := by
  obtain ⟨a, rfl⟩ := Int.eq_ofNat_of_zero_le h0
  obtain ⟨b, rfl⟩ := Int.eq_ofNat_of_zero_le l0
  have ha : a < 65536 := by omega
  have hb : b < 65536 := by omega
  have e1 : (a : Int) * 65536 = ((a * 65536 : Nat) : Int) := by omega
  rw [e1]
  have h := (bits_nat .u32 32 (by decide) (fun n h0 h2 => by rw [IntKind.wrap_u32]; omega) (a * 65536) b (by omega) (by omega)).2
  rw [h]
  have h2 : a * 65536 ||| b = a * 65536 + b := by
    have := Nat.two_pow_add_eq_or_of_lt (i := 16) (b := b) (by omega) a
    rw [Nat.mul_comm] at this
    exact this.symm
  rw [h2]; omega
theorem u8_get (zs : List Int) (h8 : ∀ z ∈ zs, 0 ≤ z ∧ z ≤ 255) (k : Nat) (h : k < zs.length) : 0 ≤ zs.getD k 0 ∧ zs.getD k 0 ≤ 255 := by
  have e : zs.getD k 0 = zs[k] := by simp [h]
  rw [e]; exact h8 _ (List.getElem_mem _)

set_option maxHeartbeats 1000000 in
theorem iadler (w : World) (a : Option Addr) (cap : Nat) (zs : List Int) (hz : Row .u8 w a zs) (hl : zs.length ≤ 1048576) (h8 : ∀ z ∈ zs, 0 ≤ z ∧ z ≤ 255) :
    Calls Tryz.prog 40 #[.slice a zs.length cap] w fun e w' => e = .returned (.int .u32 (adler zs)) ∧ w' = w := by
  have H8 : Hid _ := h8
  clear h8
  go_enter Tryz.func40, Tryz.ntmps40
  go_wp2
  go_loop [3, 4, 9] (fun x y i => ∃ k : Nat, k ≤ zs.length ∧ i = .int .i64 k ∧ x = .int .u32 (adl (zs.take k)).1 ∧ y = .int .u32 (adl (zs.take k)).2) (fun _ _ i => zs.length - (intOf i).toNat)
  case atStart => exact ⟨0, Nat.zero_le _, rfl, rfl, rfl⟩
  case round =>
    obtain ⟨k, hk, rfl, rfl, rfl⟩ := hrel
    have hb := adl_bd (zs.take k)
    by_cases hlt : k < zs.length
    · rcases hz with rfl | ⟨b, off, rfl, hb2, hc⟩
      · exact absurd hlt (by simp)
      have c0 := hc k hlt
      have hz := u8_get zs H8.out k hlt
      have hs := adl_snoc (zs.take k) (zs.getD k 0)
      rw [← take_snoc zs k hlt] at hs
      have HS : Hid _ := hs
      clear hs hc
      generalize zs.getD k 0 = z at *
      generalize hp : adl (zs.take k) = p at *
      obtain ⟨x, y⟩ := p
      dsimp only at hb
      clear hp
      go_wp2
      go_round
      case rel => exact ⟨k + 1, by omega, by go_num, by rw [HS.out]; simp only [adlStep]; try go_num, by rw [HS.out]; simp only [adlStep]; try go_num⟩
      case measure => simp [intOf]; omega
    · have e : k = zs.length := by omega
      subst e
      have ho := or_u32 (adl (zs.take zs.length)).2 (adl (zs.take zs.length)).1 (by omega) (by omega) (by omega) (by omega)
      have HO : Hid (adler zs = (adl (zs.take zs.length)).2 * 65536 + (adl (zs.take zs.length)).1) := by show _ = _; rw [List.take_length]; rfl
      generalize (adl (zs.take zs.length)).2 = y at *
      generalize (adl (zs.take zs.length)).1 = x at *
      go_wp2
      go_ret
      exact ⟨by rw [HO.out]; rfl, rfl⟩
set_option maxHeartbeats 1000000 in
theorem sl3adler (w : World) (a : Option Addr) (cap : Nat) (zs : List Int) (hz : Row .u8 w a zs) (hl : zs.length ≤ 1048576) (h8 : ∀ z ∈ zs, 0 ≤ z ∧ z ≤ 255) :
    Calls Tryz.prog 68 #[.slice a zs.length cap] w fun e w' => e = .returned (.int .u32 (adler zs)) ∧ w' = w := by
  have H8 : Hid _ := h8
  clear h8
  go_enter Tryz.func68, Tryz.ntmps68
  go_wp2
  go_loop [3, 4, 9] (fun x y i => ∃ k : Nat, k ≤ zs.length ∧ i = .int .i64 k ∧ x = .int .i64 (adl (zs.take k)).1 ∧ y = .int .i64 (adl (zs.take k)).2) (fun _ _ i => zs.length - (intOf i).toNat)
  case atStart => exact ⟨0, Nat.zero_le _, rfl, rfl, rfl⟩
  case round =>
    obtain ⟨k, hk, rfl, rfl, rfl⟩ := hrel
    have hb := adl_bd (zs.take k)
    by_cases hlt : k < zs.length
    · rcases hz with rfl | ⟨b, off, rfl, hb2, hc⟩
      · exact absurd hlt (by simp)
      have c0 := hc k hlt
      have hz := u8_get zs H8.out k hlt
      have hs := adl_snoc (zs.take k) (zs.getD k 0)
      rw [← take_snoc zs k hlt] at hs
      have HS : Hid _ := hs
      clear hs hc
      generalize zs.getD k 0 = z at *
      generalize hp : adl (zs.take k) = p at *
      obtain ⟨x, y⟩ := p
      dsimp only at hb
      clear hp
      go_wp2
      go_round
      case rel => exact ⟨k + 1, by omega, by go_num, by rw [HS.out]; simp only [adlStep]; try go_num, by rw [HS.out]; simp only [adlStep]; try go_num⟩
      case measure => simp [intOf]; omega
    · have e : k = zs.length := by omega
      subst e
      have HO : Hid (adler zs = (adl (zs.take zs.length)).2 * 65536 + (adl (zs.take zs.length)).1) := by show _ = _; rw [List.take_length]; rfl
      generalize (adl (zs.take zs.length)).2 = y at *
      generalize (adl (zs.take zs.length)).1 = x at *
      go_wp2
      go_ret
      exact ⟨by rw [HO.out]; rfl, rfl⟩
end Go.Proofs.YtaeicgfebeliiaaGreatDoor
namespace Go.Proofs.YtaeicgfebeliiaaGreatDoor
open Go.ChangeShapes Go.WideShapes Go.ChangeAt Go.RowKit
set_option linter.unusedVariables false

def absI (x : Int) : Int := if x < 0 then -x else x
def paeth (a b c : Int) : Int :=
  if absI (a + b - c - a) ≤ absI (a + b - c - b) ∧ absI (a + b - c - a) ≤ absI (a + b - c - c) then a else if absI (a + b - c - b) ≤ absI (a + b - c - c) then b else c
def guess (kind : Nat) (a b c : Int) : Int :=
  if kind = 1 then a else if kind = 2 then b else if kind = 3 then (a + b) / 2 else if kind = 4 then paeth a b c else 0
theorem guess_bd (kind : Nat) (a b c : Int) (ha : 0 ≤ a ∧ a ≤ 255) (hb : 0 ≤ b ∧ b ≤ 255) (hc : 0 ≤ c ∧ c ≤ 255) : 0 ≤ guess kind a b c ∧ guess kind a b c ≤ 255 := by
  unfold guess paeth
  repeat' split
  all_goals omega

theorem isz (w : World) (x X : Int) (hX : absI x = X) (h : -1000000 ≤ x ∧ x ≤ 1000000) : Calls Tryz.prog 75 #[.int .i64 x] w fun e w' => e = .returned (.int .u64 X) ∧ w' = w := by
  unfold absI at hX
  by_cases hlt : x < 0
  · rw [if_pos hlt] at hX; subst hX
    go_enter Tryz.func75, Tryz.ntmps75
    go_wp2
    go_ret
    exact ⟨rfl, rfl⟩
  · rw [if_neg hlt] at hX; subst hX
    go_enter Tryz.func75, Tryz.ntmps75
    go_wp2
    go_ret
    exact ⟨rfl, rfl⟩
theorem ssz (w : World) (x X : Int) (hX : absI x = X) (h : -1000000 ≤ x ∧ x ≤ 1000000) : Calls Tryz.prog 76 #[.int .i64 x] w fun e w' => e = .returned (.int .i64 X) ∧ w' = w := by
  unfold absI at hX
  by_cases hlt : x < 0
  · rw [if_pos hlt] at hX; subst hX
    go_enter Tryz.func76, Tryz.ntmps76
    go_wp2
    go_ret
    exact ⟨rfl, rfl⟩
  · rw [if_neg hlt] at hX; subst hX
    go_enter Tryz.func76, Tryz.ntmps76
    go_wp2
    go_ret
    exact ⟨rfl, rfl⟩

theorem ig0 (w : World) (a b c : Int) : Calls Tryz.prog 54 #[.int .u8 a, .int .u8 b, .int .u8 c] w fun e w' => e = .returned (.int .u8 (guess 0 a b c)) ∧ w' = w := by
  go_enter Tryz.func54, Tryz.ntmps54
  go_wp2
  go_ret
  exact ⟨rfl, rfl⟩
theorem ig1 (w : World) (a b c : Int) : Calls Tryz.prog 55 #[.int .u8 a, .int .u8 b, .int .u8 c] w fun e w' => e = .returned (.int .u8 (guess 1 a b c)) ∧ w' = w := by
  go_enter Tryz.func55, Tryz.ntmps55
  go_wp2
  go_ret
  exact ⟨rfl, rfl⟩
theorem ig2 (w : World) (a b c : Int) : Calls Tryz.prog 56 #[.int .u8 a, .int .u8 b, .int .u8 c] w fun e w' => e = .returned (.int .u8 (guess 2 a b c)) ∧ w' = w := by
  go_enter Tryz.func56, Tryz.ntmps56
  go_wp2
  go_ret
  exact ⟨rfl, rfl⟩
theorem ig3 (w : World) (a b c : Int) (ha : 0 ≤ a ∧ a ≤ 255) (hb : 0 ≤ b ∧ b ≤ 255) : Calls Tryz.prog 57 #[.int .u8 a, .int .u8 b, .int .u8 c] w fun e w' => e = .returned (.int .u8 (guess 3 a b c)) ∧ w' = w := by
  go_enter Tryz.func57, Tryz.ntmps57
  go_wp2
  go_ret
  exact ⟨rfl, rfl⟩
set_option maxHeartbeats 1000000 in
theorem ig4 (w : World) (a b c : Int) (ha : 0 ≤ a ∧ a ≤ 255) (hb : 0 ≤ b ∧ b ≤ 255) (hc : 0 ≤ c ∧ c ≤ 255) : Calls Tryz.prog 58 #[.int .u8 a, .int .u8 b, .int .u8 c] w fun e w' => e = .returned (.int .u8 (guess 4 a b c)) ∧ w' = w := by
  have HG : Hid (guess 4 a b c = if absI (a + b - c - a) ≤ absI (a + b - c - b) ∧ absI (a + b - c - a) ≤ absI (a + b - c - c) then a else if absI (a + b - c - b) ≤ absI (a + b - c - c) then b else c) := rfl
  have H1 : Hid _ := isz w (a + b - c - a) _ rfl (by omega)
  have H2 : Hid _ := isz w (a + b - c - b) _ rfl (by omega)
  have H3 : Hid _ := isz w (a + b - c - c) _ rfl (by omega)
  generalize absI (a + b - c - a) = X at *
  generalize absI (a + b - c - b) = Y at *
  generalize absI (a + b - c - c) = Z at *
  go_enter Tryz.func58, Tryz.ntmps58
  go_wp2_with fail
  refine Calls.mono H1.out ?_
  rintro e w1 ⟨rfl, rfl⟩
  go_wp2_with fail
  refine Calls.mono H2.out ?_
  rintro e w1 ⟨rfl, rfl⟩
  go_wp2_with fail
  refine Calls.mono H3.out ?_
  rintro e w1 ⟨rfl, rfl⟩
  clear H1 H2 H3
  by_cases h1 : X ≤ Y
  · by_cases h2 : X ≤ Z
    · go_wp2
      go_ret
      exact ⟨by rw [HG.out, if_pos ⟨h1, h2⟩]; rfl, rfl⟩
    · have h3 : ¬ Y ≤ Z := by omega
      go_wp2
      go_ret
      exact ⟨by rw [HG.out, if_neg (by omega), if_neg (by omega)]; rfl, rfl⟩
  · by_cases h3 : Y ≤ Z
    · go_wp2
      go_ret
      exact ⟨by rw [HG.out, if_neg (by omega), if_pos h3]; rfl, rfl⟩
    · go_wp2
      go_ret
      exact ⟨by rw [HG.out, if_neg (by omega), if_neg (by omega)]; rfl, rfl⟩

set_option maxHeartbeats 1000000 in
theorem sguess4 (w : World) (a b c : Int) (ha : 0 ≤ a ∧ a ≤ 255) (hb : 0 ≤ b ∧ b ≤ 255) (hc : 0 ≤ c ∧ c ≤ 255) : Calls Tryz.prog 59 #[.int .i64 4, .int .i64 a, .int .i64 b, .int .i64 c] w fun e w' => e = .returned (.int .i64 (guess 4 a b c)) ∧ w' = w := by
  have HG : Hid (guess 4 a b c = if absI (a + b - c - a) ≤ absI (a + b - c - b) ∧ absI (a + b - c - a) ≤ absI (a + b - c - c) then a else if absI (a + b - c - b) ≤ absI (a + b - c - c) then b else c) := rfl
  have H1 : Hid _ := ssz w (a + b - c - a) _ rfl (by omega)
  have H2 : Hid _ := ssz w (a + b - c - b) _ rfl (by omega)
  have H3 : Hid _ := ssz w (a + b - c - c) _ rfl (by omega)
  generalize absI (a + b - c - a) = X at *
  generalize absI (a + b - c - b) = Y at *
  generalize absI (a + b - c - c) = Z at *
  go_enter Tryz.func59, Tryz.ntmps59
  go_wp2_with fail
  refine Calls.mono H1.out ?_
  rintro e w1 ⟨rfl, rfl⟩
  go_wp2_with fail
  refine Calls.mono H2.out ?_
  rintro e w1 ⟨rfl, rfl⟩
  go_wp2_with fail
  refine Calls.mono H3.out ?_
  rintro e w1 ⟨rfl, rfl⟩
  clear H1 H2 H3
  by_cases h1 : X ≤ Y
  · by_cases h2 : X ≤ Z
    · go_wp2
      go_ret
      exact ⟨by rw [HG.out, if_pos ⟨h1, h2⟩]; rfl, rfl⟩
    · have h3 : ¬ Y ≤ Z := by omega
      go_wp2
      go_ret
      exact ⟨by rw [HG.out, if_neg (by omega), if_neg (by omega)]; rfl, rfl⟩
  · by_cases h3 : Y ≤ Z
    · go_wp2
      go_ret
      exact ⟨by rw [HG.out, if_neg (by omega), if_pos h3]; rfl, rfl⟩
    · go_wp2
      go_ret
      exact ⟨by rw [HG.out, if_neg (by omega), if_neg (by omega)]; rfl, rfl⟩
theorem sguess (w : World) (k : Nat) (hk : k ≤ 4) (a b c : Int) (ha : 0 ≤ a ∧ a ≤ 255) (hb : 0 ≤ b ∧ b ≤ 255) (hc : 0 ≤ c ∧ c ≤ 255) : Calls Tryz.prog 59 #[.int .i64 (k : Int), .int .i64 a, .int .i64 b, .int .i64 c] w fun e w' => e = .returned (.int .i64 (guess k a b c)) ∧ w' = w := by
  have h : k = 0 ∨ k = 1 ∨ k = 2 ∨ k = 3 ∨ k = 4 := by omega
  rcases h with rfl | rfl | rfl | rfl | rfl
  · show Calls Tryz.prog 59 #[.int .i64 0, .int .i64 a, .int .i64 b, .int .i64 c] w _
    go_enter Tryz.func59, Tryz.ntmps59
    go_wp2
    go_ret
    exact ⟨rfl, rfl⟩
  · show Calls Tryz.prog 59 #[.int .i64 1, .int .i64 a, .int .i64 b, .int .i64 c] w _
    go_enter Tryz.func59, Tryz.ntmps59
    go_wp2
    go_ret
    exact ⟨rfl, rfl⟩
  · show Calls Tryz.prog 59 #[.int .i64 2, .int .i64 a, .int .i64 b, .int .i64 c] w _
    go_enter Tryz.func59, Tryz.ntmps59
    go_wp2
    go_ret
    exact ⟨rfl, rfl⟩
  · show Calls Tryz.prog 59 #[.int .i64 3, .int .i64 a, .int .i64 b, .int .i64 c] w _
    go_enter Tryz.func59, Tryz.ntmps59
    go_wp2
    go_ret
    exact ⟨rfl, rfl⟩
  · exact sguess4 w a b c ha hb hc
end Go.Proofs.YtaeicgfebeliiaaGreatDoor
