/-
  Rows of steps: what the laws' helpers do that measure one, copy it, hold two against each other and mark one; each theorem names its conditions.
-/
import Derived.Test.YtoajjdlgipphiaaIsT
import Derived.Test.YtoajjdlgipphiaaMd
import Derived.Deep.RegionWith
namespace Go.Proofs.Ytoajjdlgipphiaa
open Go.ChangeShapes Go.WideShapes Go.ChangeAt Go.RowKit
set_option linter.unusedVariables false

/-- A step: its kind and its numbers. -/
structure SD where
  kind : Int
  ns : List Int
def noSD : SD := ⟨0, []⟩
def stAt (l : List SD) (i : Nat) : SD := l.getD i noSD
/-- The steps l lie at a. -/
def Steps (w : World) (a : Option Addr) (l : List SD) : Prop :=
  l = [] ∨ ∃ b off, a = some ⟨b, off, none⟩ ∧ b < w.heap.size ∧ ∀ i, i < l.length → w.cell? ⟨b, off + i * 2, none⟩ = some (.int .i64 (stAt l i).kind) ∧ ∃ pa pc, w.cell? ⟨b, off + i * 2 + 1, none⟩ = some (.slice pa (stAt l i).ns.length pc) ∧ Ints w pa (stAt l i).ns
theorem Steps.nw {w w' : World} {a : Option Addr} {l : List SD} (h : Steps w a l) (k : Nw w w') : Steps w' a l := by
  rcases h with h | ⟨b, off, rfl, hb, hc⟩
  · exact Or.inl h
  · refine Or.inr ⟨b, off, rfl, Nat.lt_of_lt_of_le hb (Below.size k), fun i hi => ?_⟩
    obtain ⟨h1, pa, pc, h2, h3⟩ := hc i hi
    exact ⟨((bcell k).1 _ _ hb).trans h1, pa, pc, ((bcell k).1 _ _ hb).trans h2, h3.nw k⟩
def manyS (l : List SD) : Nat := (l.map fun x => x.ns.length).sum
theorem manyS_step (l : List SD) (k : Nat) (h : k < l.length) : manyS (l.take (k + 1)) = manyS (l.take k) + (stAt l k).ns.length := by
  unfold manyS stAt
  have e : l.getD k noSD = l[k] := by simp [h]
  rw [List.take_succ_eq_append_getElem h, List.map_append, List.sum_append, e]
  simp only [List.map_cons, List.map_nil, List.sum_cons, List.sum_nil]
  omega
theorem manyS_le (l : List SD) (k : Nat) : manyS (l.take k) ≤ manyS l := by
  unfold manyS
  conv => rhs; rw [← List.take_append_drop k l]
  rw [List.map_append, List.sum_append]
  omega
theorem manyS_at (l : List SD) (k : Nat) (h : k < l.length) : (stAt l k).ns.length ≤ manyS l := by
  have h1 := manyS_step l k h
  have h2 := manyS_le l (k + 1)
  omega
theorem retS {x y : Int} (h : x = y) : Ending.returned (.int .i64 x) = Ending.returned (.int .i64 y) := by rw [h]
set_option maxHeartbeats 1000000 in
theorem szStep_any (w : World) (a : Option Addr) (n c : Nat) (kd : Int) (left : Int) (h0 : 0 ≤ left) (h1 : left ≤ 1048576) (hm : n ≤ maxLen) :
    Calls Try.prog 42 #[.agg #[.int .i64 kd, .slice a n c], .int .i64 left] w fun e w' => e = .returned (.int .i64 (if (n : Int) ≤ left then left - (n : Int) else -1)) ∧ Nw w w' := by
  have HZ : Hid _ := fun w => szIntS_any w a n c left h0 h1 hm
  clear hm
  by_cases c1 : (n : Int) ≤ left
  · rw [if_pos c1] at HZ ⊢
    go_enter Try.func42, Try.ntmps42
    go_wp2_with fail
    refine Calls.mono (HZ.out _) ?_
    rintro e w1 ⟨rfl, rfl⟩
    go_wp2
    go_ret
    exact ⟨rfl, (Below.refl _ _).alloc (Nat.le_refl _) _⟩
  · rw [if_neg c1] at HZ ⊢
    go_enter Try.func42, Try.ntmps42
    go_wp2_with fail
    refine Calls.mono (HZ.out _) ?_
    rintro e w1 ⟨rfl, rfl⟩
    go_wp2
    go_ret
    exact ⟨rfl, (Below.refl _ _).alloc (Nat.le_refl _) _⟩
def szSt (l : List SD) (left : Int) : Int := if ((l.length + manyS l : Nat) : Int) ≤ left then left - ((l.length + manyS l : Nat) : Int) else -1
set_option maxHeartbeats 2000000 in
theorem szStepS_any (w : World) (a : Option Addr) (c : Nat) (l : List SD) (left : Int) (h0 : 0 ≤ left) (h1 : left ≤ 1048576) (hm : l.length ≤ maxLen) (hs : ∀ i, i < l.length → (stAt l i).ns.length ≤ maxLen) (hr : Steps w a l) :
    Calls Try.prog 17 #[.slice a l.length c, .int .i64 left] w fun e w' => e = .returned (.int .i64 (szSt l left)) ∧ Nw w w' := by
  unfold maxLen at hm
  by_cases c1 : (l.length : Int) ≤ left
  · have HS : Hid _ := hs
    have HR : Hid (Steps w a l) := hr
    clear hs hr
    go_enter Try.func17, Try.ntmps17
    go_wp2
    go_loopw [1, 5] (fun x i wr => ∃ k : Nat, k ≤ l.length ∧ i = .int .i64 k ∧ x = .int .i64 (left - l.length - (manyS (l.take k) : Nat)) ∧ (manyS (l.take k) : Int) ≤ left - l.length ∧ Nw w wr) (fun _ i _ => l.length - (intOf i).toNat)
    case atStart => exact ⟨0, Nat.zero_le _, rfl, by simp [manyS], by simp [manyS]; omega, Below.refl _ _⟩
    case round =>
      obtain ⟨k, hk, rfl, rfl, hb, hw⟩ := hrel
      by_cases hlt : k < l.length
      · have hs2 := manyS_step l k hlt
        have hle := manyS_le l (k + 1)
        have hz := HS.out k hlt
        rcases (HR.out.nw hw) with h | ⟨b, off, rfl, hbk, hc⟩
        · rw [h] at hlt; simp at hlt
        obtain ⟨q0, qa, qc, q1, _⟩ := hc k hlt
        have HZ : Hid ((stAt l k).ns.length ≤ maxLen) := hz
        have HW : Hid (Nw w wr) := hw
        clear hc hw hz
        generalize manyS (l.take k) = b1 at *
        have HE : Hid (manyS (l.take (k + 1)) = b1 + (stAt l k).ns.length) := hs2
        rw [hs2] at hle
        clear hs2
        generalize (stAt l k).ns.length = n at *
        generalize (stAt l k).kind = kd at *
        by_cases c2 : (n : Int) ≤ left - l.length - b1
        · go_wp2_with (go_at_call 42; refine Calls.mono (szStep_any _ qa n qc kd _ (by omega) (by omega) HZ.out) ?_; rw [if_pos c2]; rintro e w' ⟨rfl, k1⟩)
          go_roundw
          case rel => exact ⟨k + 1, by omega, by go_num, by rw [HE.out]; go_num, by rw [HE.out]; omega, HW.out.trans k1⟩
          case measure => simp [intOf]; omega
        · have HX : Hid (szSt l left = -1) := by show szSt l left = -1; unfold szSt; rw [if_neg (by omega)]
          go_wp2_with (go_at_call 42; refine Calls.mono (szStep_any _ qa n qc kd _ (by omega) (by omega) HZ.out) ?_; rw [if_neg c2]; rintro e w' ⟨rfl, k1⟩)
          go_ret
          exact ⟨retS HX.out.symm, HW.out.trans k1⟩
      · have e : k = l.length := by omega
        subst e
        rw [List.take_length] at *
        have HX : Hid (szSt l left = left - l.length - manyS l) := by show szSt l left = _; unfold szSt; rw [if_pos (by omega)]; omega
        have HW : Hid (Nw w wr) := hw
        clear hw
        generalize manyS l = m at *
        go_wp2
        go_ret
        exact ⟨retS HX.out.symm, HW.out⟩
  · have HX : Hid (szSt l left = -1) := by show szSt l left = -1; unfold szSt; rw [if_neg (by omega)]
    clear hs hr
    go_enter Try.func17, Try.ntmps17
    go_wp2
    go_ret
    exact ⟨retS HX.out.symm, Below.refl _ _⟩
theorem LayI.off {w : World} {g : Nat} {l : List Int} (h : LayI w g l) (b o : Nat) (v : Value) (hne : b ≠ g) : LayI (w.setCell ⟨b, o, none⟩ v) g l :=
  ⟨by simpa [World.setCell] using h.1, fun i hi => by rw [World.cell?_setCell_other _ _ _ _ (fun h => by injection h; omega)]; exact h.2.1 i hi, fun o => by rw [World.frozen?_setCell]; exact h.2.2 o⟩
set_option maxHeartbeats 2000000 in
theorem toStep_any (w : World) (a : Option Addr) (c : Nat) (kd : Int) (ns : List Int) (hl : ns.length ≤ 1048576) (hr : Ints w a ns) :
    Calls Try.prog 46 #[.agg #[.int .i64 kd, .slice a ns.length c]] w fun e w' => ∃ g, e = .returned (.agg #[.int .i64 kd, .slice (some ⟨g, 0, none⟩) ns.length ns.length]) ∧ Nw w w' ∧ w.heap.size ≤ g ∧ LayI w' g ns := by
  have HR : ∀ o1 o2 o3, Hid (Ints (((w.alloc o1).alloc o2).alloc o3) a ns) := fun o1 o2 o3 => hr.nw ((((Below.refl _ _).alloc (Nat.le_refl _) _).alloc (by simp) _).alloc (by simp; omega) _)
  clear hr
  go_enter Try.func46, Try.ntmps46
  go_wp2_with (go_at_call 8; refine (toIntS_any _ a c ns hl (HR _ _ _).out).mono ?_; rintro e w' ⟨rfl, k1, k2⟩; obtain ⟨hc, hf⟩ := bcell k1)
  have K0 : Below w.heap.size w w' := Below.trans ((((Below.refl _ _).alloc (Nat.le_refl _) _).alloc (by simp) _).alloc (by simp; omega) _) (Below.mono k1 (by simp; omega))
  have hz : w.heap.size + 1 + 1 + 1 < w'.heap.size := by have := k2.1; simpa using this
  have K2 : LayI w' (w.heap.size + 1 + 1 + 1) ns := by simpa using k2
  clear k1 k2
  refine bodyPost_ret (v := .agg #[.int .i64 kd, .slice (some ⟨w.heap.size + 1 + 1 + 1, 0, none⟩) ns.length ns.length]) (by simp [results, Try.results46, go_sem, hc]) rfl ⟨w.heap.size + 1 + 1 + 1, rfl, ?_, by omega, ?_⟩
  · exact ((K0.setCell (by simp; omega) _).setCell (by simp) _).setCell (by simp) _
  · exact ((K2.off _ _ _ (by omega)).off _ _ _ (by omega)).off _ _ _ (by omega)
/-- A copy's steps: where the numbers of each lie. -/
abbrev Sts := List (Nat × SD)
def iaAt (it : Sts) (i : Nat) : Nat × SD := it.getD i (0, noSD)
theorem iaAt_old (it : Sts) (x : Nat × SD) (i : Nat) (h : i < it.length) : iaAt (it ++ [x]) i = iaAt it i := by simp [iaAt, List.getElem?_append, h]
theorem iaAt_new (it : Sts) (x : Nat × SD) : iaAt (it ++ [x]) it.length = x := by simp [iaAt]
structure LaySt (w : World) (g : Nat) (it : Sts) (n : Nat) : Prop where
  lt : g < w.heap.size
  c1 : ∀ i, i < it.length → w.cell? ⟨g, i * 2, none⟩ = some (.int .i64 (iaAt it i).2.kind) ∧ w.cell? ⟨g, i * 2 + 1, none⟩ = some (.slice (some ⟨(iaAt it i).1, 0, none⟩) (iaAt it i).2.ns.length (iaAt it i).2.ns.length)
  c2 : ∀ i, it.length ≤ i → i < n → w.cell? ⟨g, i * 2, none⟩ = some (.int .i64 0) ∧ w.cell? ⟨g, i * 2 + 1, none⟩ = some (.slice none 0 0)
  free : ∀ o, w.frozen? ⟨g, o, none⟩ = false
  pts : ∀ i, i < it.length → g < (iaAt it i).1 ∧ LayI w (iaAt it i).1 (iaAt it i).2.ns
  apart : ∀ i j, i ≠ j → i < it.length → j < it.length → (iaAt it i).1 ≠ (iaAt it j).1
theorem LaySt.nw {w w' : World} {g n : Nat} {it : Sts} (h : LaySt w g it n) (k : Nw w w') : LaySt w' g it n :=
  ⟨Nat.lt_of_lt_of_le h.lt (Below.size k), fun i hi => ⟨((bcell k).1 _ _ h.lt).trans (h.c1 i hi).1, ((bcell k).1 _ _ h.lt).trans (h.c1 i hi).2⟩, fun i a b => ⟨((bcell k).1 _ _ h.lt).trans (h.c2 i a b).1, ((bcell k).1 _ _ h.lt).trans (h.c2 i a b).2⟩,
    fun o => ((bcell k).2 _ _ h.lt).trans (h.free o), fun i hi => ⟨(h.pts i hi).1, (h.pts i hi).2.nw k⟩, h.apart⟩
theorem LaySt.start (w : World) (n : Nat) (t : TypeId) : LaySt (w.alloc (.cells (madeCells #[.int .i64 0, .slice none 0 0] (n * 2)) t)) w.heap.size [] n := by
  refine ⟨by simp, fun i hi => absurd hi (by simp), fun i _ hi => ⟨?_, ?_⟩, fun o => World.frozen?_alloc_at _ _ _ _ rfl, fun i hi => absurd hi (by simp), fun i j _ hi => absurd hi (by simp)⟩
  · have := madeCells_get #[.int .i64 0, .slice none 0 0] (n * 2) (i * 2) (by omega)
    simp at this
    simp [this]
  · have := madeCells_get #[.int .i64 0, .slice none 0 0] (n * 2) (i * 2 + 1) (by omega)
    have e : (i * 2 + 1) % 2 = 1 := by omega
    simp [e] at this
    simp [this]
theorem LaySt.step {w w' : World} {g n p : Nat} {it : Sts} {x : SD} (h : LaySt w g it n) (k : Nw w w') (hn : it.length < n) (hp : w.heap.size ≤ p) (hl : LayI w' p x.ns) :
    LaySt ((w'.setCell ⟨g, it.length * 2, none⟩ (.int .i64 x.kind)).setCell ⟨g, it.length * 2 + 1, none⟩ (.slice (some ⟨p, 0, none⟩) x.ns.length x.ns.length)) g (it ++ [(p, x)]) n := by
  have h' := h.nw k
  obtain ⟨z0, z1⟩ := h'.c2 it.length (Nat.le_refl _) hn
  have hgp : g < p := Nat.lt_of_lt_of_le h.lt hp
  have hlt : ∀ i, i < it.length → (iaAt it i).1 < p := fun i hi => Nat.lt_of_lt_of_le (h.pts i hi).2.1 hp
  generalize hu : (Value.slice (some ⟨p, 0, none⟩) x.ns.length x.ns.length) = u
  have far : ∀ o, o ≠ it.length * 2 → o ≠ it.length * 2 + 1 → ((w'.setCell ⟨g, it.length * 2, none⟩ (.int .i64 x.kind)).setCell ⟨g, it.length * 2 + 1, none⟩ u).cell? ⟨g, o, none⟩ = w'.cell? ⟨g, o, none⟩ := by
    intro o a b
    rw [World.cell?_setCell_other _ _ _ _ (fun h => by injection h; omega), World.cell?_setCell_other _ _ _ _ (fun h => by injection h; omega)]
  refine ⟨by simpa [World.setCell] using h'.lt, fun i hi => ?_, fun i hi hi2 => ?_, fun o => by rw [World.frozen?_setCell, World.frozen?_setCell]; exact h'.free o, fun i hi => ?_, fun i j hij hi hj => ?_⟩
  · rw [List.length_append, List.length_singleton] at hi
    by_cases e : i = it.length
    · subst e
      rw [iaAt_new]
      refine ⟨?_, by rw [hu]; exact World.cell?_setCell_same _ ⟨g, it.length * 2 + 1, none⟩ _ ((World.cell?_setCell_other _ _ _ _ (fun h => by injection h; omega)).trans z1)⟩
      rw [World.cell?_setCell_other _ _ _ _ (fun h => by injection h; omega)]
      exact World.cell?_setCell_same w' ⟨g, it.length * 2, none⟩ _ z0
    · have hi' : i < it.length := by omega
      rw [iaAt_old it _ i hi', far _ (by omega) (by omega), far _ (by omega) (by omega)]
      exact h'.c1 i hi'
  · rw [List.length_append, List.length_singleton] at hi
    rw [far _ (by omega) (by omega), far _ (by omega) (by omega)]
    exact h'.c2 i (by omega) hi2
  · rw [List.length_append, List.length_singleton] at hi
    by_cases e : i = it.length
    · subst e
      rw [iaAt_new]
      exact ⟨hgp, (hl.off _ _ _ (Nat.ne_of_lt hgp)).off _ _ _ (Nat.ne_of_lt hgp)⟩
    · have hi' : i < it.length := by omega
      rw [iaAt_old it _ i hi']
      obtain ⟨e2, e3⟩ := h'.pts i hi'
      exact ⟨e2, (e3.off _ _ _ (Nat.ne_of_lt e2)).off _ _ _ (Nat.ne_of_lt e2)⟩
  · rw [List.length_append, List.length_singleton] at hi hj
    by_cases e : i = it.length
    · subst e
      have hj' : j < it.length := by omega
      rw [iaAt_new, iaAt_old it _ j hj']
      exact fun e => Nat.lt_irrefl _ (e ▸ hlt j hj')
    · have hi' : i < it.length := by omega
      rw [iaAt_old it _ i hi']
      by_cases e2 : j = it.length
      · subst e2
        rw [iaAt_new]
        exact Nat.ne_of_lt (hlt i hi')
      · have hj' : j < it.length := by omega
        rw [iaAt_old it _ j hj']
        exact h.apart i j hij hi' hj'
theorem sd_at (it : Sts) (i : Nat) (h : i < it.length) : stAt (it.map (·.2)) i = (iaAt it i).2 := by simp [stAt, iaAt, h]
theorem LaySt.steps {w : World} {g n : Nat} {it : Sts} (h : LaySt w g it n) : Steps w (some ⟨g, 0, none⟩) (it.map (·.2)) := by
  refine Or.inr ⟨g, 0, rfl, h.lt, fun i hi => ?_⟩
  have hi' : i < it.length := by simpa using hi
  obtain ⟨q0, q1⟩ := h.c1 i hi'
  rw [sd_at it i hi', Nat.zero_add]
  exact ⟨q0, _, _, q1, (h.pts i hi').2.ints⟩
theorem info_step : (Try.prog.info? 76).map (fun i => (i.zero, i.size, i.bytes)) = some (some (.agg #[.int .i64 0, .slice none 0 0]), 2, 32) := by kernel_rfl
set_option maxRecDepth 100000 in
set_option maxHeartbeats 4000000 in
theorem toStepS_any (w : World) (a : Option Addr) (c : Nat) (l : List SD) (hm : l.length ≤ 1048576) (hla : ∀ i, i < l.length → (stAt l i).ns.length ≤ 1048576) (hr : Steps w a l) :
    Calls Try.prog 19 #[.slice a l.length c] w fun e w' => e = .returned (.slice (some ⟨w.heap.size, 0, none⟩) l.length l.length) ∧ Nw w w' ∧ ∃ it : Sts, it.map (·.2) = l ∧ LaySt w' w.heap.size it l.length := by
  have HR : Hid (Steps w a l) := hr
  have HLA : Hid _ := hla
  clear hr hla
  have hmk := run_mk 45 76 _ 2 32 Try.underlying45 info_step l.length (by omega) (by omega)
  have hcs : (Value.agg #[.int .i64 0, .slice none 0 0]).cells = #[.int .i64 0, .slice none 0 0] := rfl
  rw [hcs] at hmk
  go_enter Try.func19, Try.ntmps19
  go_wp2
  go_loopw [4] (fun i wr => ∃ k : Nat, k ≤ l.length ∧ i = .int .i64 k ∧ Nw w wr ∧ ∃ it : Sts, it.map (·.2) = l.take k ∧ LaySt wr w.heap.size it l.length) (fun i _ => l.length - (intOf i).toNat)
  case atStart => exact ⟨0, Nat.zero_le _, rfl, (Below.refl _ _).alloc (Nat.le_refl _) _, [], rfl, LaySt.start w l.length _⟩
  case round =>
    obtain ⟨k, hk, rfl, hw, it, hit, hlay⟩ := hrel
    clear hmk hcs
    have hil : it.length = k := by
      have := congrArg List.length hit
      simp at this
      omega
    have HIT : Hid (it.map (·.2) = l.take k) := hit
    clear hit
    by_cases hlt : k < l.length
    · rcases (HR.out.nw hw) with h | ⟨b, off, rfl, hbk, hc⟩
      · rw [h] at hlt; simp at hlt
      obtain ⟨q0, qa, qc, q1, q4⟩ := hc k hlt
      have Q4 : Hid (Ints wr qa (stAt l k).ns) := q4
      have hlk : (stAt l k).ns.length ≤ 1048576 := HLA.out k hlt
      have HE : Hid (l.take (k + 1) = l.take k ++ [stAt l k]) := by
        show _ = _
        have e : stAt l k = l[k] := by simp [stAt, hlt]
        rw [List.take_succ_eq_append_getElem hlt, e]
      clear hc q4
      have HW : Hid (Nw w wr) := hw
      obtain ⟨z0, z1⟩ := hlay.c2 k (by omega) hlt
      have zf := hlay.free
      have HL : Hid (LaySt wr w.heap.size it l.length) := hlay
      have hg : w.heap.size < wr.heap.size := hlay.lt
      clear hw hlay
      generalize stAt l k = x at *
      obtain ⟨kd, ns⟩ := x
      simp only at q0 q1 Q4 hlk
      go_wp2_with (go_at_call 46; refine Calls.mono (toStep_any _ qa qc kd ns hlk Q4.out) ?_; rintro e w' ⟨ga, rfl, k1, hga, hlp⟩; have y0 := ((bcell k1).1 _ (k * 2) hg).trans z0; have y1 := ((bcell k1).1 _ (k * 2 + 1) hg).trans z1; have yf : ∀ o, w'.frozen? ⟨w.heap.size, o, none⟩ = false := fun o => ((bcell k1).2 _ o hg).trans (zf o); have HLP : Hid (LayI w' ga ns) := hlp; clear z0 z1 zf hlp)
      go_roundw
      case rel =>
        refine ⟨k + 1, by omega, by go_num, ?_, it ++ [(ga, ⟨kd, ns⟩)], ?_, ?_⟩
        · have kb : Below w.heap.size w w' := HW.out.trans k1
          exact (kb.setCell (Nat.le_refl _) _).setCell (Nat.le_refl _) _
        · rw [HE.out, List.map_append, HIT.out]; rfl
        · have := LaySt.step (x := ⟨kd, ns⟩) HL.out k1 (by omega) hga HLP.out
          rw [hil] at this
          exact this
      case measure => simp [intOf]; omega
    · have e : k = l.length := by omega
      subst e
      rw [List.take_length] at HIT
      have HN : Hid (Nw w wr ∧ LaySt wr w.heap.size it l.length) := ⟨hw, hlay⟩
      clear hw hlay
      go_wp2
      go_ret
      exact ⟨rfl, HN.out.1, it, HIT.out, HN.out.2⟩
end Go.Proofs.Ytoajjdlgipphiaa
