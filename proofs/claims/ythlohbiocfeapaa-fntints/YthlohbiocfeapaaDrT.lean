/-
  What the specification's draw of a tint answers: some tint, and nothing that was there but the reader is written; each theorem names its conditions.
-/
import Derived.Test.YthlohbiocfeapaaCuF
import Derived.Test.YthlohbiocfeapaaTnP
namespace Go.Proofs.Ythlohbiocfeapaa
open Go.ChangeShapes Go.WideShapes Go.ChangeAt Go.RowKit
set_option linter.unusedVariables false

/-- Of what was there nothing but the block B is written. -/
def Gr (B : Nat) (w w' : World) : Prop := w.grownBy w' (some B)
theorem Gr.refl (B : Nat) (w : World) : Gr B w w := ⟨rfl, rfl, rfl, Nat.le_refl _, fun _ _ _ => rfl⟩
theorem Gr.size {B : Nat} {a b : World} (h : Gr B a b) : a.heap.size ≤ b.heap.size := World.grownBy.size h
theorem Gr.trans {B : Nat} {a b c : World} (h : Gr B a b) (k : Gr B b c) : Gr B a c :=
  ⟨(World.grownBy.os k).trans (World.grownBy.os h), (World.grownBy.tape k).trans (World.grownBy.tape h), (World.grownBy.output k).trans (World.grownBy.output h), Nat.le_trans h.size k.size,
   fun i hi hne => (World.grownBy.block k i (Nat.lt_of_lt_of_le hi h.size) hne).trans (World.grownBy.block h i hi hne)⟩
theorem Gr.of_sel {B : Nat} {a b : World} (h : Sel B a b) : Gr B a b :=
  ⟨h.os, h.tape, h.output, by rw [h.size]; exact Nat.le_refl _, fun i _ hne => h.block i (fun e => hne (by rw [e]))⟩
theorem Gr.of_nw {B : Nat} {a b : World} (h : Nw a b) : Gr B a b := ⟨Below.os h, Below.tape h, Below.output h, Below.size h, fun i hi _ => Below.block h i hi⟩
theorem Gr.alloc {B : Nat} {a b : World} (h : Gr B a b) (o : Obj) : Gr B a (b.alloc o) := h.trans (Gr.of_nw ((Below.refl _ _).alloc (Nat.le_refl _) _))
theorem Gr.set {B : Nat} {a b : World} (h : Gr B a b) {g : Nat} (hg : a.heap.size ≤ g) (o : Nat) (v : Value) : Gr B a (b.setCell ⟨g, o, none⟩ v) := by
  have h' : a.grownBy b (some B) := h
  exact ⟨h'.os, h'.tape, h'.output, by simpa [World.setCell] using h.size, fun i hi hne => by
    rw [Below.heap_setCell _ _ _ _ (by show i ≠ g; omega)]
    exact h'.block i hi hne⟩
theorem Gr.cell {B : Nat} {a b : World} (h : Gr B a b) {g : Nat} (hg : g < a.heap.size) (hne : g ≠ B) (o : Nat) : b.cell? ⟨g, o, none⟩ = a.cell? ⟨g, o, none⟩ :=
  World.cell?_of_block (w := a) (a := ⟨g, o, none⟩) (World.grownBy.block h g hg (fun e => hne (Option.some.inj e)))
theorem Gr.frozen {B : Nat} {a b : World} (h : Gr B a b) {g : Nat} (hg : g < a.heap.size) (hne : g ≠ B) (o : Nat) : b.frozen? ⟨g, o, none⟩ = a.frozen? ⟨g, o, none⟩ :=
  World.frozen?_of_block (w := a) (a := ⟨g, o, none⟩) (World.grownBy.block h g hg (fun e => hne (Option.some.inj e)))
theorem Gr.below {B : Nat} {a b : World} (h : Gr B a b) (hB : B ≤ a.heap.size) : Below B a b :=
  ⟨World.grownBy.os h, World.grownBy.tape h, World.grownBy.output h, h.size, fun i hi => World.grownBy.block h i (by omega) (fun e => by have := Option.some.inj e; omega)⟩
theorem QB.gr {w w' : World} {b B : Nat} {t : Edg} (h : QB w b t) (k : Gr B w w') (hne : b ≠ B) : QB w' b t := by
  have e := fun o => k.cell h.lt hne o
  exact ⟨(e _).trans h.c0, (e _).trans h.c1, (e _).trans h.c2, (e _).trans h.c3, fun o => (k.frozen h.lt hne o).trans (h.free o)⟩
theorem Cur.set {w : World} {B : Nat} {ca : Option Addr} {len cap n : Nat} (h : Cur w B ca len cap n) {g : Nat} (hg : g ≠ B) (o : Nat) (v : Value) : Cur (w.setCell ⟨g, o, none⟩ v) B ca len cap n := by
  obtain ⟨k, sd, h1, h2, h3, c0, c1, c2, hf, hB⟩ := h
  have e : ∀ o', (w.setCell ⟨g, o, none⟩ v).cell? ⟨B, o', none⟩ = w.cell? ⟨B, o', none⟩ := fun o' => World.cell?_setCell_other _ _ _ _ (fun e => by injection e; omega)
  exact ⟨k, sd, h1, h2, h3, (e _).trans c0, (e _).trans c1, (e _).trans c2, fun o' => by rw [World.frozen?_setCell]; exact hf o', by simpa [World.setCell] using hB⟩
theorem six_bd (v : Int) (h : v ∈ [0, 255, 128, 1, 254, 77]) : 0 ≤ v ∧ v ≤ 255 := by
  simp at h
  omega
set_option maxRecDepth 100000 in
set_option maxHeartbeats 4000000 in
theorem tint_any (w : World) (B : Nat) (ca : Option Addr) (len cap n : Nat) (hl : len ≤ 9223372036854775807) (hn : n ≤ 10000000) (hc : Cur w B ca len cap n) (hd : Code w B ca len) :
    Calls Try.prog 57 #[.pointer (some ⟨B, 0, none⟩)] w fun e w' => ∃ t : Edg, e = .returned (edV t) ∧ Cur w' B ca len cap (n + 20) ∧ Gr B w w' := by
  have hB := hc.lt
  have HB : Hid (B < w.heap.size) := hB
  obtain ⟨W0, hW0⟩ : ∃ W0, w.alloc (.cells #[.int .i64 0, .int .i64 0, .int .i64 0, .int .i64 0] 24) = W0 := ⟨_, rfl⟩
  have HZ : Hid (QB W0 w.heap.size noE) := by show QB _ _ _; rw [← hW0]; exact QB.new w noE _
  have G0 : Hid (Gr B w W0) := by show Gr _ _ _; rw [← hW0]; exact (Gr.refl B w).alloc _
  have C0 : Hid (Cur W0 B ca len cap n) := by show Cur _ _ _ _ _ _; rw [← hW0]; exact hc.alloc _ _
  have D0 : Hid (Code W0 B ca len) := by show Code _ _ _ _; rw [← hW0]; exact hd.alloc (by omega) _
  have hs0 : W0.heap.size = w.heap.size + 1 := by rw [← hW0]; simp
  have HS0 : Hid (W0.heap.size = w.heap.size + 1) := hs0
  have HW0 : Hid (_ = W0) := hW0
  have N0 : Hid (Nums (W0.alloc (.cells #[.int .i64 0, .int .i64 255, .int .i64 128, .int .i64 1, .int .i64 254, .int .i64 77] 3)) (w.heap.size + 1) [0, 255, 128, 1, 254, 77]) := by
    have h := nums_alloc [0, 255, 128, 1, 254, 77] W0 3
    rw [hs0] at h
    exact h
  clear hc hd hW0 hs0 hB
  go_enter Try.func57, Try.ntmps57
  go_wp2_with fail
  rw [HW0.out]
  refine (among_any _ B (w.heap.size + 1) 6 [0, 255, 128, 1, 254, 77] rfl ca len cap n hl (by omega) (by omega) (by omega) (by have := HB.out; omega) N0.out (C0.out.alloc _ _) (Code.alloc D0.out (by have := HB.out; have := HS0.out; omega) _)).mono ?_
  rintro e w1 ⟨a, rfl, ha, hc1, hb1⟩
  have ab := six_bd a ha
  have G1 : Hid (Gr B W0 w1) := ((Gr.refl B W0).alloc _).trans (Gr.of_sel hb1)
  have C1 : Hid (Cur w1 B ca len cap (n + 2)) := hc1
  clear ha hc1 hb1
  have DC : Hid (∀ w', Gr B W0 w' → Code w' B ca len) := fun w' h => Code.below D0.out (h.below (by have := HB.out; have := HS0.out; omega))
  have HZG : Hid (∀ w', Gr B W0 w' → QB w' w.heap.size noE) := fun w' h => HZ.out.gr h (by have := HB.out; omega)
  obtain ⟨ab1, ab2⟩ := ab
  go_wp2_with fail
  refine (pick_any w1 B ca len cap (n + 2) (a + 1) hl (by omega) (by omega) (by omega) C1.out (DC.out _ G1.out)).mono ?_
  rintro e w2 ⟨r, rfl, _, _, hc2, hb2⟩
  have G2 : Hid (Gr B W0 w2) := Gr.trans G1.out (Gr.of_sel hb2)
  have C2 : Hid (Cur w2 B ca len cap (n + 2 + 2)) := hc2
  clear hc2 hb2
  go_wp2_with fail
  refine (pick_any w2 B ca len cap (n + 2 + 2) (a + 1) hl (by omega) (by omega) (by omega) C2.out (DC.out _ G2.out)).mono ?_
  rintro e w3 ⟨g, rfl, _, _, hc3, hb3⟩
  have G3 : Hid (Gr B W0 w3) := Gr.trans G2.out (Gr.of_sel hb3)
  have C3 : Hid (Cur w3 B ca len cap (n + 2 + 2 + 2)) := hc3
  clear hc3 hb3
  go_wp2_with fail
  refine (pick_any w3 B ca len cap (n + 2 + 2 + 2) (a + 1) hl (by omega) (by omega) (by omega) C3.out (DC.out _ G3.out)).mono ?_
  rintro e w4 ⟨b, rfl, _, _, hc4, hb4⟩
  have G4 : Hid (Gr B W0 w4) := Gr.trans G3.out (Gr.of_sel hb4)
  have C4 : Hid (Cur w4 B ca len cap (n + 2 + 2 + 2 + 2)) := hc4
  have B4 : Hid (B < w4.heap.size) := hc4.lt
  clear hc4 hb4
  obtain ⟨W5, hW5⟩ : ∃ W5, w4.alloc (.cells #[.int .i64 r, .int .i64 g, .int .i64 b, .int .i64 a] 24) = W5 := ⟨_, rfl⟩
  have Q5 : Hid (QB W5 w4.heap.size ⟨r, g, b, a⟩) := by show QB _ _ _; rw [← hW5]; exact QB.new w4 ⟨r, g, b, a⟩ _
  have G5 : Hid (Gr B W0 W5) := by show Gr _ _ _; rw [← hW5]; exact Gr.alloc G4.out _
  have C5 : Hid (Cur W5 B ca len cap (n + 2 + 2 + 2 + 2)) := by show Cur _ _ _ _ _ _; rw [← hW5]; exact C4.out.alloc _ _
  have HW5 : Hid (_ = W5) := hW5
  clear hW5
  go_wp2_with fail
  rw [HW5.out]
  refine (one_any W5 B ca len cap (n + 2 + 2 + 2 + 2) 60 hl (by omega) (by omega) (by omega) C5.out (DC.out _ G5.out)).mono ?_
  rintro e w6 ⟨bb, rfl, hc6, hb6⟩
  have G6 : Hid (Gr B W0 w6) := Gr.trans G5.out (Gr.of_sel hb6)
  have C6 : Hid (Cur w6 B ca len cap (n + 2 + 2 + 2 + 2 + 2)) := hc6
  have Q6 : Hid (QB w6 w4.heap.size ⟨r, g, b, a⟩) := Q5.out.gr (Gr.of_sel hb6) (by have := B4.out; omega)
  have B6 : Hid (w4.heap.size < w6.heap.size) := Q6.out.lt
  clear hc6 hb6
  have Z4 : Hid (w.heap.size + 1 ≤ w4.heap.size) := by show _ ≤ _; rw [← HS0.out]; exact Gr.size G4.out
  cases bb with
  | false =>
    obtain ⟨z0, z1, z2, z3, zf⟩ := HZG.out _ G6.out
    obtain ⟨q0, q1, q2, q3, _⟩ := Q6.out
    simp only [noE] at z0 z1 z2 z3 q0 q1 q2 q3
    obtain ⟨y0, y1, y2, y3⟩ := set4 w6 w.heap.size (.int .i64 r) (.int .i64 g) (.int .i64 b) (.int .i64 a) z0 z1 z2 z3
    go_wp2
    refine bodyPost_ret (v := .agg #[.int .i64 r, .int .i64 g, .int .i64 b, .int .i64 a]) (by simp [results, Try.results57, go_sem, y0, y1, y2, y3]) rfl ⟨⟨r, g, b, a⟩, rfl, ?_, ?_⟩
    · have hne : w.heap.size ≠ B := by have := HB.out; omega
      exact Cur.mono ((((C6.out.set hne _ _).set hne _ _).set hne _ _).set hne _ _) (by omega)
    · exact ((((Gr.trans G0.out G6.out).set (Nat.le_refl _) _ _).set (Nat.le_refl _) _ _).set (Nat.le_refl _) _ _).set (Nat.le_refl _) _ _
  | true =>
    obtain ⟨q0, q1, q2, q3, qf⟩ := Q6.out
    simp only at q0 q1 q2 q3
    go_wp2_with fail
    refine (among_any _ B w6.heap.size 3 [-1, a + 1, 256] rfl ca len cap (n + 2 + 2 + 2 + 2 + 2) hl (by omega) (by omega) (by omega) (by have := B6.out; have := B4.out; omega) (nums_alloc [-1, a + 1, 256] w6 3) (C6.out.alloc _ _) (Code.alloc (DC.out _ G6.out) (by have := B6.out; have := B4.out; omega) _)).mono ?_
    rintro e w7 ⟨x, rfl, _, hc7, hb7⟩
    have g7 : Gr B w6 w7 := ((Gr.refl B w6).alloc _).trans (Gr.of_sel hb7)
    have G7 : Hid (Gr B W0 w7) := Gr.trans G6.out g7
    have C7 : Hid (Cur w7 B ca len cap (n + 2 + 2 + 2 + 2 + 2 + 2)) := hc7
    have hne4 : w4.heap.size ≠ B := by have := B4.out; omega
    have Q7 : Hid (QB w7 w4.heap.size ⟨r, g, b, a⟩) := Q6.out.gr g7 hne4
    clear hc7 hb7 g7 q0 q1 q2 q3 qf
    obtain ⟨q0, q1, q2, q3, qf⟩ := Q7.out
    simp only at q0 q1 q2 q3
    have p0 := World.cell?_setCell_same w7 ⟨w4.heap.size, 0, none⟩ (.int .i64 x) q0
    have far : ∀ g' o', ¬ (g' = w4.heap.size ∧ o' = 0) → (w7.setCell ⟨w4.heap.size, 0, none⟩ (.int .i64 x)).cell? ⟨g', o', none⟩ = w7.cell? ⟨g', o', none⟩ := fun g' o' h => World.cell?_setCell_other _ _ _ _ (fun e => by injection e; omega)
    have p1 := (far _ 1 (by omega)).trans q1
    have p2 := (far _ 2 (by omega)).trans q2
    have p3 := (far _ 3 (by omega)).trans q3
    obtain ⟨z0, z1, z2, z3, zf⟩ := HZG.out _ G7.out
    simp only [noE] at z0 z1 z2 z3
    have hz : ∀ o', ¬ (w.heap.size = w4.heap.size ∧ o' = 0) := fun o' => by have := Z4.out; omega
    replace z0 := (far w.heap.size 0 (hz 0)).trans z0
    replace z1 := (far w.heap.size 1 (hz 1)).trans z1
    replace z2 := (far w.heap.size 2 (hz 2)).trans z2
    replace z3 := (far w.heap.size 3 (hz 3)).trans z3
    clear far hz
    obtain ⟨y0, y1, y2, y3⟩ := set4 _ w.heap.size (.int .i64 x) (.int .i64 g) (.int .i64 b) (.int .i64 a) z0 z1 z2 z3
    go_wp2
    refine bodyPost_ret (v := .agg #[.int .i64 x, .int .i64 g, .int .i64 b, .int .i64 a]) (by simp [results, Try.results57, go_sem, y0, y1, y2, y3]) rfl ⟨⟨x, g, b, a⟩, rfl, ?_, ?_⟩
    · have hne : w.heap.size ≠ B := by have := HB.out; omega
      exact Cur.mono (((((C7.out.set hne4 _ _).set hne _ _).set hne _ _).set hne _ _).set hne _ _) (by omega)
    · exact (((((Gr.trans G0.out G7.out).set (by have := Z4.out; omega) _ _).set (Nat.le_refl _) _ _).set (Nat.le_refl _) _ _).set (Nat.le_refl _) _ _).set (Nat.le_refl _) _ _
end Go.Proofs.Ythlohbiocfeapaa
