/-
  Regions that draw their order in which arguments are copied, a function is called with the copies, and its first answer is laid into a variable: what is known of the memory, by which of the operations have come up; each theorem names its conditions.
-/
import Derived.Test.YtoajjdlgipphiaaRg3
import Derived.Test.YtoajjdlgipphiaaMkl
namespace Go.Proofs.Ytoajjdlgipphiaa
open Go.ChangeShapes Go.WideShapes Go.ChangeAt Go.RowKit
set_option linter.unusedVariables false

/-- A part of an answer of several. -/
def tupAt (u : Value) (j : Nat) : Value := match u with | .tuple xs => xs.getD j undef | _ => undef
theorem tupAt_0 (r b : Value) : tupAt (.tuple #[r, b]) 0 = r := rfl
theorem tupAt_1 (r b : Value) : tupAt (.tuple #[r, b]) 1 = b := rfl
/-- nc copies, of which the i-th says C i; an answer that says R (behind the bound, in a world); a variable of n cells. -/
structure RcX where
  nc : Nat
  n : Nat
  W : World
  C : Nat → World → Value → Prop
  R : Nat → World → Value → Value → Prop
structure RcX.Ok (X : RcX) : Prop where
  cnw : ∀ i w w' u, X.C i w u → Nw w w' → X.C i w' u
  rnw : ∀ B w w' r b, X.R B w r b → Nw w w' → X.R B w' r b
  far : ∀ B w r b bx o u, X.R B w r b → bx < B → X.R B (w.setCell ⟨bx, o, none⟩ u) r b
  cells : ∀ B w r b, X.R B w r b → r.cells.size = X.n
structure RcX.Wd (X : RcX) (S : Nat → Bool) (γ : Nat → Value) (w : World) : Prop where
  nw : Nw X.W w
  cp : ∀ i, i < X.nc → S i = true → S X.nc = false → X.C i w (γ i)
  ans : S X.nc = true → ∃ r b B w0, γ X.nc = .tuple #[r, b] ∧ X.W.heap.size ≤ B ∧ X.R B w0 r b ∧ Nw w0 w ∧ ∀ bx, S (X.nc + 1) = true → γ (X.nc + 1) = .pointer (some ⟨bx, 0, none⟩) → bx < B ∨ w0.heap.size ≤ bx
  box : S (X.nc + 1) = true → ∃ bx, γ (X.nc + 1) = .pointer (some ⟨bx, 0, none⟩) ∧ X.W.heap.size ≤ bx ∧ bx < w.heap.size ∧ (∀ j, j < X.n → ∃ u, w.cell? ⟨bx, j, none⟩ = some u) ∧ ∀ o, w.frozen? ⟨bx, o, none⟩ = false
  put : S (X.nc + 1 + 1) = true → ∃ bx r b, γ (X.nc + 1) = .pointer (some ⟨bx, 0, none⟩) ∧ γ X.nc = .tuple #[r, b] ∧ bx < w.heap.size ∧ ∀ j, j < X.n → w.cell? ⟨bx, j, none⟩ = r.cells[j]?
theorem RcX.Wd.start (X : RcX) (γ : Nat → Value) (w : World) (h : Nw X.W w) : X.Wd (fun _ => false) γ w :=
  ⟨h, fun _ _ h _ => (by cases h), fun h => (by cases h), fun h => (by cases h), fun h => (by cases h)⟩
theorem upS_ne {S : Nat → Bool} {k j : Nat} (h : j ≠ k) : upS S k j = S j := by unfold upS; rw [if_neg h]
theorem upS_at (S : Nat → Bool) (k : Nat) : upS S k k = true := by unfold upS; rw [if_pos rfl]
theorem updG_ne {γ : Nat → Value} {k j : Nat} {u : Value} (h : j ≠ k) : updG γ k u j = γ j := by unfold updG; rw [if_neg h]
theorem updG_at (γ : Nat → Value) (k : Nat) (u : Value) : updG γ k u k = u := by unfold updG; rw [if_pos rfl]
/-- A call that makes memory at most leaves all as it is. -/
theorem RcX.Wd.keep {X : RcX} (ok : X.Ok) {S : Nat → Bool} {γ : Nat → Value} {w w' : World} (h : X.Wd S γ w) (k : Nw w w') : X.Wd S γ w' := by
  refine ⟨Nw.trans h.nw k, fun i hi hs hm => ok.cnw i _ _ _ (h.cp i hi hs hm) k, fun hs => ?_, fun hs => ?_, fun hs => ?_⟩
  · obtain ⟨r, b, B, w0, h1, h2, h3, h4, h5⟩ := h.ans hs
    exact ⟨r, b, B, w0, h1, h2, h3, Nw.trans h4 k, h5⟩
  · obtain ⟨bx, h1, h2, h3, h4, h5⟩ := h.box hs
    refine ⟨bx, h1, h2, Nat.lt_of_lt_of_le h3 (Below.size k), fun j hj => ?_, fun o => ((bcell k).2 _ _ h3).trans (h5 o)⟩
    obtain ⟨u, hu⟩ := h4 j hj
    exact ⟨u, ((bcell k).1 _ _ h3).trans hu⟩
  · obtain ⟨bx, r, b, h1, h2, h3, h4⟩ := h.put hs
    exact ⟨bx, r, b, h1, h2, Nat.lt_of_lt_of_le h3 (Below.size k), fun j hj => ((bcell k).1 _ _ h3).trans (h4 j hj)⟩
theorem RcX.Wd.copy {X : RcX} (ok : X.Ok) {S : Nat → Bool} {γ : Nat → Value} {w w' : World} (h : X.Wd S γ w) (k : Nw w w') {i : Nat} (hi : i < X.nc) {u : Value} (hc : X.C i w' u) : X.Wd (upS S i) (updG γ i u) w' := by
  have h' := h.keep ok k
  refine ⟨h'.nw, fun j hj hs hm => ?_, ?_, ?_, ?_⟩
  · rw [upS_ne (by omega)] at hm
    by_cases e : j = i
    · subst e; rw [updG_at]; exact hc
    · rw [upS_ne e] at hs; rw [updG_ne e]; exact h'.cp j hj hs hm
  · rw [upS_ne (by omega), upS_ne (by omega), updG_ne (by omega), updG_ne (by omega)]; exact h'.ans
  · rw [upS_ne (by omega), updG_ne (by omega)]; exact h'.box
  · rw [upS_ne (by omega), updG_ne (by omega), updG_ne (by omega)]; exact h'.put
theorem RcX.Wd.main {X : RcX} (ok : X.Ok) {S : Nat → Bool} {γ : Nat → Value} {w w' : World} (h : X.Wd S γ w) (k : Nw w w') (hno : S (X.nc + 1 + 1) = false) {r b : Value} (hr : X.R w.heap.size w' r b) : X.Wd (upS S X.nc) (updG γ X.nc (.tuple #[r, b])) w' := by
  have h' := h.keep ok k
  refine ⟨h'.nw, fun j hj hs hm => ?_, fun _ => ?_, ?_, ?_⟩
  · rw [upS_at] at hm; cases hm
  · refine ⟨r, b, w.heap.size, w', updG_at _ _ _, Below.size h.nw, hr, Below.refl _ _, fun bx hs hg => ?_⟩
    rw [upS_ne (by omega)] at hs
    rw [updG_ne (by omega)] at hg
    obtain ⟨bx', h1, _, h3, _⟩ := h.box hs
    rw [hg] at h1
    injection h1 with h1; injection h1 with h1; injection h1 with h1
    exact Or.inl (by omega)
  · rw [upS_ne (by omega), updG_ne (by omega)]; exact h'.box
  · rw [upS_ne (by omega), hno]; intro h; cases h
theorem RcX.Wd.alloc {X : RcX} (ok : X.Ok) {S : Nat → Bool} {γ : Nat → Value} {w : World} (h : X.Wd S γ w) (hno : S (X.nc + 1 + 1) = false) (zs : Array Value) (t : TypeId) (hz : zs.size = X.n) :
    X.Wd (upS S (X.nc + 1)) (updG γ (X.nc + 1) (.pointer (some ⟨w.heap.size, 0, none⟩))) (w.alloc (.cells zs t)) := by
  have n1 : Nw w (w.alloc (.cells zs t)) := (Below.refl _ _).alloc (Nat.le_refl _) _
  have h' := h.keep ok n1
  refine ⟨h'.nw, fun j hj hs hm => ?_, ?_, fun _ => ?_, ?_⟩
  · rw [upS_ne (by omega)] at hs hm; rw [updG_ne (by omega)]; exact h'.cp j hj hs hm
  · rw [upS_ne (by omega), updG_ne (by omega), updG_at]
    intro hs
    obtain ⟨r, b, B, w0, h1, h2, h3, h4, _⟩ := h.ans hs
    refine ⟨r, b, B, w, h1, h2, ok.rnw _ _ _ _ _ h3 h4, n1, fun bx _ hg => ?_⟩
    injection hg with hg; injection hg with hg; injection hg with hg
    exact Or.inr (by omega)
  · refine ⟨w.heap.size, updG_at _ _ _, Below.size h.nw, by simp, fun j hj => ?_, fun o => World.frozen?_alloc_at _ _ _ _ rfl⟩
    refine ⟨zs[j]'(by omega), ?_⟩
    rw [World.cell?_alloc_at _ _ _ _ rfl]
    exact Array.getElem?_eq_getElem (by omega)
  · rw [upS_ne (by omega), hno]; intro h; cases h
/-- The cells cs, laid from j on. -/
def setL (w : World) (b : Nat) : List Value → Nat → World
  | [], _ => w
  | c :: cs, j => setL (w.setCell ⟨b, j, none⟩ c) b cs (j + 1)
theorem setL_size (b : Nat) : ∀ (cs : List Value) (w : World) (j : Nat), (setL w b cs j).heap.size = w.heap.size
  | [], _, _ => rfl
  | c :: cs, w, j => by
    unfold setL
    rw [setL_size b cs]
    simp [World.setCell]
theorem setL_below (b B : Nat) (hB : B ≤ b) : ∀ (cs : List Value) (w0 w : World) (j : Nat), Below B w0 w → Below B w0 (setL w b cs j)
  | [], _, _, _, h => h
  | c :: cs, w0, w, j, h => setL_below b B hB cs w0 _ (j + 1) (h.setCell hB _)
theorem setL_frozen (b : Nat) : ∀ (cs : List Value) (w : World) (j : Nat) (ad : Addr), (setL w b cs j).frozen? ad = w.frozen? ad
  | [], _, _, _ => rfl
  | c :: cs, w, j, ad => by
    unfold setL
    rw [setL_frozen b cs, World.frozen?_setCell]
theorem setL_before (b : Nat) : ∀ (cs : List Value) (w : World) (j i : Nat), i < j → (setL w b cs j).cell? ⟨b, i, none⟩ = w.cell? ⟨b, i, none⟩
  | [], _, _, _, _ => rfl
  | c :: cs, w, j, i, h => by
    unfold setL
    rw [setL_before b cs _ (j + 1) i (by omega), World.cell?_setCell_other _ _ _ _ (fun e => by injection e; omega)]
theorem setL_at (b : Nat) : ∀ (cs : List Value) (w : World) (j : Nat), (∀ i, i < cs.length → ∃ u, w.cell? ⟨b, j + i, none⟩ = some u) → ∀ i, i < cs.length → (setL w b cs j).cell? ⟨b, j + i, none⟩ = cs[i]?
  | [], _, _, _, _, h => absurd h (by simp)
  | c :: cs, w, j, hc, i, hi => by
    unfold setL
    cases i with
    | zero =>
      rw [setL_before b cs _ (j + 1) (j + 0) (by omega)]
      obtain ⟨u, hu⟩ := hc 0 (by simp)
      simpa using World.cell?_setCell_same w ⟨b, j + 0, none⟩ c hu
    | succ i =>
      have h2 := setL_at b cs (w.setCell ⟨b, j, none⟩ c) (j + 1) (fun m hm => by
        obtain ⟨u, hu⟩ := hc (m + 1) (by simp; omega)
        refine ⟨u, ?_⟩
        rw [World.cell?_setCell_other _ _ _ _ (fun e => by injection e; omega), show j + 1 + m = j + (m + 1) by omega]
        exact hu) i (by simpa using hi)
      rw [show j + (i + 1) = j + 1 + i by omega, h2]
      simp
theorem RcX.R.setL {X : RcX} (ok : X.Ok) {B bx : Nat} {r b : Value} (hb : bx < B) : ∀ (cs : List Value) (w : World) (j : Nat), X.R B w r b → X.R B (setL w bx cs j) r b
  | [], _, _, h => h
  | c :: cs, w, j, h => RcX.R.setL ok hb cs _ (j + 1) (ok.far _ _ _ _ _ _ _ h hb)
theorem RcX.Wd.store {X : RcX} (ok : X.Ok) {S : Nat → Bool} {γ : Nat → Value} {w : World} (h : X.Wd S γ w) (hs1 : S X.nc = true) (hs2 : S (X.nc + 1) = true) {bx : Nat} {r b : Value} (hg : γ (X.nc + 1) = .pointer (some ⟨bx, 0, none⟩)) (ha : γ X.nc = .tuple #[r, b])
    (u : Value) : X.Wd (upS S (X.nc + 1 + 1)) (updG γ (X.nc + 1 + 1) u) (setL w bx r.cells.toList 0) := by
  have hS1 : upS S (X.nc + 1 + 1) X.nc = S X.nc := upS_ne (by omega)
  have hS2 : upS S (X.nc + 1 + 1) (X.nc + 1) = S (X.nc + 1) := upS_ne (by omega)
  have hγ1 : updG γ (X.nc + 1 + 1) u X.nc = γ X.nc := updG_ne (by omega)
  have hγ2 : updG γ (X.nc + 1 + 1) u (X.nc + 1) = γ (X.nc + 1) := updG_ne (by omega)
  generalize upS S (X.nc + 1 + 1) = S' at *
  generalize updG γ (X.nc + 1 + 1) u = γ' at *
  obtain ⟨bx', g1, g2, g3, g4, g5⟩ := h.box hs2
  rw [hg] at g1
  injection g1 with g1; injection g1 with g1; injection g1 with g1
  subst g1
  obtain ⟨r', b', B, w0, a1, a2, a3, a3n, a4⟩ := h.ans hs1
  rw [ha] at a1
  injection a1 with a1; injection a1 with a1; injection a1 with a1 a5; injection a5 with a5 a6
  subst a1 a5
  have hn : r.cells.toList.length = X.n := by simpa using ok.cells _ _ _ _ a3
  have hat := setL_at bx r.cells.toList w 0 (fun i hi => by rw [Nat.zero_add]; exact g4 i (by omega))
  have hfar := a4 bx hs2 hg
  refine ⟨setL_below bx _ g2 _ _ _ _ h.nw, fun i hi hs hm => absurd hm (by rw [hS1, hs1]; decide), fun _ => ?_, fun _ => ?_, fun _ => ?_⟩
  · have same : ∀ bx', γ' (X.nc + 1) = .pointer (some ⟨bx', 0, none⟩) → bx' = bx := fun bx' hg' => by
      rw [hγ2, hg] at hg'
      injection hg' with hg'; injection hg' with hg'; injection hg' with hg'
      exact hg'.symm
    rcases hfar with hf | hf
    · exact ⟨r, b, B, setL w bx r.cells.toList 0, by rw [hγ1]; exact ha, a2, RcX.R.setL ok hf _ _ _ (ok.rnw _ _ _ _ _ a3 a3n), Below.refl _ _, fun bx' _ hg' => Or.inl (by rw [same bx' hg']; exact hf)⟩
    · exact ⟨r, b, B, w0, by rw [hγ1]; exact ha, a2, a3, setL_below bx _ hf _ _ _ _ a3n, fun bx' _ hg' => Or.inr (by rw [same bx' hg']; exact hf)⟩
  · refine ⟨bx, by rw [hγ2]; exact hg, g2, by rw [setL_size]; exact g3, fun j hj => ?_, fun o => by rw [setL_frozen]; exact g5 o⟩
    have := hat j (by omega)
    rw [Nat.zero_add] at this
    exact ⟨_, this.trans (List.getElem?_eq_getElem (by omega))⟩
  · refine ⟨bx, r, b, by rw [hγ2]; exact hg, by rw [hγ1]; exact ha, by rw [setL_size]; exact g3, fun j hj => ?_⟩
    have := hat j (by omega)
    rw [Nat.zero_add] at this
    rw [this]
    simp
/-- All have come up. -/
theorem RcX.Wd.fin {X : RcX} (ok : X.Ok) {S : Nat → Bool} {γ : Nat → Value} {w : World} (h : X.Wd S γ w) (hs : ∀ k, k < X.nc + 3 → S k = true) :
    ∃ bx r b B w0, γ (X.nc + 1) = .pointer (some ⟨bx, 0, none⟩) ∧ γ X.nc = .tuple #[r, b] ∧ Nw X.W w ∧ X.W.heap.size ≤ bx ∧ bx < w.heap.size ∧ (∀ o, w.frozen? ⟨bx, o, none⟩ = false) ∧ (∀ j, j < X.n → w.cell? ⟨bx, j, none⟩ = r.cells[j]?) ∧ X.W.heap.size ≤ B ∧ X.R B w0 r b ∧ Nw w0 w ∧ (bx < B ∨ w0.heap.size ≤ bx) := by
  obtain ⟨bx, h1, h2, h3, _, h5⟩ := h.box (hs _ (by omega))
  obtain ⟨r, b, B, w0, g1, g2, g3, g4, g5⟩ := h.ans (hs _ (by omega))
  obtain ⟨bx', r', b', k1, k2, k3, k4⟩ := h.put (hs _ (by omega))
  rw [h1] at k1
  injection k1 with k1; injection k1 with k1; injection k1 with k1
  subst k1
  rw [g1] at k2
  injection k2 with k2; injection k2 with k2; injection k2 with k2 k5; injection k5 with k5 k6
  subst k2 k5
  exact ⟨bx, r, b, B, w0, h1, g1, h.nw, h2, h3, h5, k4, g2, g3, g4, g5 bx (hs _ (by omega)) h1⟩
end Go.Proofs.Ytoajjdlgipphiaa
