/-
  Lines moved by the program; each theorem names its conditions.
-/
import Derived.Test.YtmojppchpeecmaaMvE
import Derived.Test.YtmojppchpeecmaaLo
namespace Go.Proofs.Ytmojppchpeecmaa
open Go.ChangeShapes Go.WideShapes Go.ChangeAt Go.RowKit
set_option linter.unusedVariables false

theorem nset2 {w W : World} {b : Nat} (k : Nw w W) (hb : w.heap.size ≤ b) (u v : Value) : Nw w ((W.setCell ⟨b, 0, none⟩ u).setCell ⟨b, 1, none⟩ v) := (Below.setCell k hb _).setCell hb _
/-- A box of two values. -/
def B2 (b : Nat) (x y : Value) (w : World) : Prop := w.cell? ⟨b, 0, none⟩ = some x ∧ w.cell? ⟨b, 1, none⟩ = some y ∧ ∀ o, w.frozen? ⟨b, o, none⟩ = false
theorem B2.nw {b : Nat} {x y : Value} {w w' : World} (h : B2 b x y w) (k : Nw w w') : B2 b x y w' := by
  have hb := World.block_lt_of_cell? w ⟨b, 0, none⟩ h.1
  exact ⟨((bcell k).1 _ _ hb).trans h.1, ((bcell k).1 _ _ hb).trans h.2.1, fun o => ((bcell k).2 _ _ hb).trans (h.2.2 o)⟩
theorem box3g {w W : World} {os : Array Value} {x y z0 z1 : Value} {t1 t2 t3 : TypeId} (h : ((w.alloc (.cells os t1)).alloc (.cells #[x, y] t2)).alloc (.cells #[z0, z1] t3) = W) :
    B2 (w.heap.size + 1) x y W ∧ B2 (w.heap.size + 1 + 1) z0 z1 W ∧ Nw w W := by
  subst h
  have n2 : Nw (w.alloc (.cells os t1)) (((w.alloc (.cells os t1)).alloc (.cells #[x, y] t2)).alloc (.cells #[z0, z1] t3)) := ((Below.refl _ _).alloc (Nat.le_refl _) _).alloc (by simp) _
  refine ⟨⟨?_, ?_, ?_⟩, ⟨?_, ?_, ?_⟩, Nw.trans ((Below.refl _ _).alloc (Nat.le_refl _) _) n2⟩
  · rw [World.cell?_alloc_past _ _ _ (by simp), World.cell?_alloc_at _ _ _ _ (by simp)]; rfl
  · rw [World.cell?_alloc_past _ _ _ (by simp), World.cell?_alloc_at _ _ _ _ (by simp)]; rfl
  · intro o
    have h3 : Nw ((w.alloc (.cells os t1)).alloc (.cells #[x, y] t2)) (((w.alloc (.cells os t1)).alloc (.cells #[x, y] t2)).alloc (.cells #[z0, z1] t3)) := (Below.refl _ _).alloc (Nat.le_refl _) _
    exact ((bcell h3).2 _ _ (by simp)).trans (World.frozen?_alloc_at _ _ _ _ (by simp))
  · rw [World.cell?_alloc_at _ _ _ _ (by simp)]; rfl
  · rw [World.cell?_alloc_at _ _ _ _ (by simp)]; rfl
  · intro o
    exact World.frozen?_alloc_at _ _ _ _ (by simp)
set_option maxRecDepth 100000 in
set_option maxHeartbeats 4000000 in
theorem imovedL (w : World) (A : Aff) (pa : Option Addr) (pc : Nat) (ps : List Pnt) (cl : Bool) (hg : A.ok = true) (hl : ps.length ≤ 600) (hr : Pts w pa ps) :
    Calls Try.prog 53 #[A.v, .agg #[.slice pa ps.length pc, .bool cl]] w fun e w' => ∃ v, e = .returned (.tuple #[.agg #[v, .bool cl], .bool (mvsB A ps)]) ∧ OwnP w' w.heap.size v (if mvsB A ps = true then ps.map (mvP A) else []) ∧ Nw w w' := by
  obtain ⟨V, hV⟩ : ∃ V, mvsB A ps = V := ⟨_, rfl⟩
  obtain ⟨M, hM⟩ : ∃ M, (if V = true then ps.map (mvP A) else []) = M := ⟨_, rfl⟩
  have HC : Hid (∀ w : World, Pts w pa ps → _) := fun w h => ieachP w pa pc ps A hg hl h
  rw [hV, hM] at HC ⊢
  clear hV hM hg
  obtain ⟨a, b, c, d, e, f⟩ := A
  unfold Aff.v at HC ⊢
  simp only at HC ⊢
  have HR : Hid (Pts w pa ps) := hr
  clear hr
  generalize ps.length = n at *
  go_enter Try.func53, Try.ntmps53
  go_wp2_with fail
  obtain ⟨W, hW⟩ : ∃ W, ((w.alloc (.cells #[.int .i64 a, .int .i64 b, .int .i64 c, .int .i64 d, .int .i64 e, .int .i64 f] 31)).alloc (.cells #[.slice pa n pc, .bool cl] 55)).alloc (.cells #[.slice none 0 0, .bool false] 55) = W := ⟨_, rfl⟩
  rw [hW]
  obtain ⟨hl1, hz1, nw0⟩ := box3g hW
  clear hW
  have N0 : Hid (Nw w W) := nw0
  refine Calls.mono (HC.out W (HR.out.nw nw0)) ?_
  rintro e w1 ⟨v, rfl, ho, k1⟩
  obtain ⟨va, vn, vc, rfl⟩ := OwnQ.slice ho
  obtain ⟨l0, l1, lf⟩ := hl1.nw k1
  obtain ⟨z0, z1, zf⟩ := hz1.nw k1
  have hsW : w.heap.size + 1 + 1 < W.heap.size := World.block_lt_of_cell? W ⟨w.heap.size + 1 + 1, 0, none⟩ hz1.1
  have HO : Hid (OwnP w1 W.heap.size (.slice va vn vc) M) := ho
  have N1 : Hid (Nw w w1) := Nw.trans nw0 k1
  clear hl1 hz1 nw0 ho k1
  go_wp2
  obtain ⟨y0, y1⟩ := set2 w1 (w.heap.size + 1 + 1) (.slice va vn vc) (.bool cl) z0 z1
  refine bodyPost_ret (v := .tuple #[.agg #[.slice va vn vc, .bool cl], .bool V]) (by simp [results, Try.results53, go_sem, y0, y1]) rfl ⟨_, rfl, ?_, nset2 N1.out (by omega) _ _⟩
  have hne : (Value.slice va vn vc).ownBlock ≠ some (w.heap.size + 1 + 1) := fun e => by have := (OwnQ.lt HO.out _ e).1; omega
  exact OwnQ.base (OwnQ.far (OwnQ.far HO.out _ _ _ hne) _ _ _ hne) (Below.size N0.out)
theorem under_llns : Try.prog.underlying 86 = some (.slice 55) := by kernel_rfl
/-- A list of lines of the call's own in a variable: the block bx. -/
def LVL (bx : Nat) (w : World) (it : Its) : Prop := ∃ v, w.cell? ⟨bx, 0, none⟩ = some v ∧ (∀ o, w.frozen? ⟨bx, o, none⟩ = false) ∧ OwnLn w (bx + 1) v it
theorem LVL.lt {bx : Nat} {w : World} {it : Its} (h : LVL bx w it) : bx < w.heap.size := by
  obtain ⟨v, h1, _⟩ := h
  exact World.block_lt_of_cell? w ⟨bx, 0, none⟩ h1
theorem LVL.new (w : World) (t : TypeId) : LVL w.heap.size (w.alloc (.cells #[.slice none 0 0] t)) [] :=
  ⟨.slice none 0 0, by simp, fun o => World.frozen?_alloc_at _ _ _ _ rfl, OwnLn.nil _ _⟩
theorem one_cells {w : World} {B : Nat} {u : Value} {ld : LD} {l : List Pnt} (h : OwnP w B u l) : ∀ x ∈ flat2 (vLn [(u, ld)]), x.oneCell' = true := by
  obtain ⟨a, n, c, rfl⟩ := OwnQ.slice h
  intro x hx
  simp only [vLn, List.map_cons, List.map_nil, flat2, List.mem_cons, List.not_mem_nil, or_false] at hx
  rcases hx with rfl | rfl <;> rfl
set_option maxHeartbeats 1000000 in
theorem iaddL (wS w : World) (bx : Nat) (it : Its) (u : Value) (ld : LD) (t : TypeId) (h : LVL bx wS it) (k : Nw wS w) (hu : OwnP w wS.heap.size u ld.pts) (hlen : it.length + 1 ≤ 10000000) :
    Calls Try.prog 86 #[.pointer (some ⟨bx, 0, none⟩), .slice (some ⟨w.heap.size, 0, none⟩) 1 1] (w.alloc (.cells #[u, .bool ld.closed] t)) fun e w' => e = .returned (.tuple #[]) ∧ LVL bx w' (it ++ [(u, ld)]) ∧ Below bx wS w' := by
  have hbS := h.lt
  obtain ⟨v, hc, hf, hown⟩ := h
  have n1 : Nw w (w.alloc (.cells #[u, .bool ld.closed] t)) := (Below.refl _ _).alloc (Nat.le_refl _) _
  have k1 : Nw wS (w.alloc (.cells #[u, .bool ld.closed] t)) := Nw.trans k n1
  have hb : bx < (w.alloc (.cells #[u, .bool ld.closed] t)).heap.size := Nat.lt_of_lt_of_le hbS (Below.size k1)
  have hbox : (w.alloc (.cells #[u, .bool ld.closed] t)).cell? ⟨bx, 0, none⟩ = some v := ((bcell k1).1 _ _ hbS).trans hc
  have hfr : ∀ o, (w.alloc (.cells #[u, .bool ld.closed] t)).frozen? ⟨bx, o, none⟩ = false := fun o => ((bcell k1).2 _ _ hbS).trans (hf o)
  have hne : v.ownBlock ≠ some bx := fun e => by have := (OwnQ.lt hown.own bx e).1; omega
  have HI : Hid (∀ i, i < (vLn [(u, ld)]).length → (w.alloc (.cells #[u, .bool ld.closed] t)).cell? ⟨w.heap.size, 0 + i * 2, none⟩ = some (vvAt (vLn [(u, ld)]) i).1 ∧ (w.alloc (.cells #[u, .bool ld.closed] t)).cell? ⟨w.heap.size, 0 + i * 2 + 1, none⟩ = some (vvAt (vLn [(u, ld)]) i).2) := fun i hi => by
    have : i = 0 := by simp [vLn] at hi; omega
    subst this
    simp [vLn, vvAt]
  have H1 : Hid _ := one_cells (ld := ld) hu
  have HO : Hid (OwnLn wS (bx + 1) v it) := hown
  have HQ : Hid (OwnQ 55 (w.alloc (.cells #[u, .bool ld.closed] t)) (bx + 1) v (vLn it)) := OwnQ.nw hown.own k1
  have HU : Hid (OwnP (w.alloc (.cells #[u, .bool ld.closed] t)) wS.heap.size u ld.pts) := hu.nw n1
  have HK : Hid (Nw wS (w.alloc (.cells #[u, .bool ld.closed] t))) := k1
  have HN : Hid (v.ownBlock ≠ some bx) := hne
  have HL : Hid (it.length + 1 ≤ 10000000) := hlen
  clear hc hf hown k n1 k1 hne hu hlen
  obtain ⟨g, hg⟩ : ∃ g, w.heap.size = g := ⟨_, rfl⟩
  rw [hg] at HI ⊢
  generalize w.alloc (.cells #[u, .bool ld.closed] t) = W at *
  clear hg
  obtain ⟨sa, sn, sc, rfl⟩ := OwnQ.slice HQ.out
  go_enter Try.func86, Try.ntmps86
  go_wp2_with (at_builtin; (refine wpl_q 55 86 32 (.slice none 0 0) (.bool false) 32 under_llns under_lns info_line (by decide) rfl W (.tmp 7) (.tmp 8) rfl (bx + 1) (.slice sa sn sc) (vLn it) (vLn [(u, ld)]) rfl HQ.out g 0 1 1 rfl rfl HI.out H1.out (by rw [vLn_len]; simp) ?cl ?cb rfl ?_))
  case cl => rw [vLn_len, vLn_len]; have := HL.out; simpa using this
  case cb => omega
  intro g' c' w1 h2 h3
  rw [← vLn_append] at h2
  rw [vLn_len] at h2 h3 ⊢
  have y0 : w1.cell? ⟨bx, 0, none⟩ = some (.slice sa sn sc) := (Ext.cell h3 hb HN.out 0).trans hbox
  have y1 : ∀ o, w1.frozen? ⟨bx, o, none⟩ = false := fun o => (World.frozen?_of_block (w := W) (a := ⟨bx, o, none⟩) (h3.1.block bx hb (fun e => HN.out e.symm))).trans (hfr o)
  have H2 : Hid _ := OwnLn.put HO.out HK.out (Nat.succ_le_of_lt hbS) HU.out h2 h3
  have H3 : Hid _ := h3
  clear h2 h3 hbox hfr
  go_wp2
  go_end0
  refine ⟨rfl, ⟨_, World.cell?_setCell_same w1 ⟨bx, 0, none⟩ _ y0, fun o => by rw [World.frozen?_setCell]; exact y1 o, OwnLn.farSet H2.out _ _ _ (Nat.lt_succ_self _)⟩, ?_⟩
  have kb : Below bx W w1 := Ext.below H3.out (fun g e => Nat.le_of_succ_le (OwnQ.lt HQ.out g e).1) (by omega)
  exact Below.setCell (Below.trans (Below.mono HK.out (Nat.le_of_lt hbS)) kb) (Nat.le_refl _) _
end Go.Proofs.Ytmojppchpeecmaa
