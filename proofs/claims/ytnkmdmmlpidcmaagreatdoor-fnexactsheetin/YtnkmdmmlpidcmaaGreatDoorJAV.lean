/-
  Two rows of nodes alike are told to be alike; nodes that came in, opened; each theorem names its conditions.
  What a row wants of the call, the world's shape handed to the walk; each theorem names its conditions.
-/
import Derived.Test.YtnkmdmmlpidcmaaGreatDoorJAU
import Derived.Deep.RegionWith
import Derived.Test.YtnkmdmmlpidcmaaGreatDoorRows
import Derived.Handed
import Derived.ProofKit
namespace Go.Proofs.YtnkmdmmlpidcmaaGreatDoor
open Go.ChangeShapes Go.WideShapes Go.ChangeAt Go.RowKit Go.Deep
set_option linter.unusedVariables false

set_option maxHeartbeats 4000000 in
theorem eqNodeS_any (w : World) (a1 a2 : Option Addr) (c1 c2 : Nat) (l : List ND) (hl : l.length ≤ 1048576) (hla : lenOk l) (h1 : Nodes w a1 l) (h2 : Nodes w a2 l) :
    Calls Tryz.prog 23 #[.slice a1 l.length c1, .slice a2 l.length c2] w fun e w' => e = .returned (.bool true) ∧ Nw w w' := by
  have H1 : Hid (Nodes w a1 l) := h1
  have H2 : Hid (Nodes w a2 l) := h2
  have HLA : Hid (lenOk l) := hla
  clear h1 h2 hla
  go_enter Tryz.func23, Tryz.ntmps23
  go_wp2
  go_loopw [5] (fun i wr => ∃ k : Nat, k ≤ l.length ∧ i = .int .i64 k ∧ Nw w wr) (fun i _ => l.length - (intOf i).toNat)
  case atStart => exact ⟨0, Nat.zero_le _, rfl, Below.refl _ _⟩
  case round =>
    obtain ⟨k, hk, rfl, hw⟩ := hrel
    by_cases hlt : k < l.length
    · rcases (H1.out.nw hw) with h | ⟨b1, o1, rfl, hb1, hc1⟩
      · rw [h] at hlt; simp at hlt
      rcases (H2.out.nw hw) with h | ⟨b2, o2, rfl, hb2, hc2⟩
      · rw [h] at hlt; simp at hlt
      obtain ⟨q0, q1, ⟨qa, qc, q2, qcap, q4⟩, q3⟩ := hc1 k hlt
      obtain ⟨r0, r1, ⟨ra, rc, r2, rcap, r4⟩, r3⟩ := hc2 k hlt
      have hlk := HLA.out k hlt
      have Q4 : Hid (Attrs wr.drew qa (nodeAt l k).attrs) := q4.nw ((Below.refl _ _).drew)
      have R4 : Hid (Attrs wr.drew ra (nodeAt l k).attrs) := r4.nw ((Below.refl _ _).drew)
      clear hc1 hc2 H1 H2 q4 r4
      have HW : Hid (Nw w wr) := hw
      clear hw
      go_wp2
      go_region_with (go_at_call 54; refine Calls.mono (eqNode_any _ (nodeAt l k) qa ra qc rc hlk Q4.out R4.out) ?_; rintro e w' ⟨rfl, k1⟩)
      all_goals
        go_wp2
        go_roundw
        case rel => exact ⟨k + 1, by omega, by go_num, HW.out.trans k1.drw⟩
        case measure => simp [intOf]; omega
    · have HW : Hid (Nw w wr) := hw
      clear hw
      go_wp2
      go_ret
      exact ⟨rfl, HW.out⟩

section
variable {H : Type} {enc : TypeId × Value → H} {W : World} {base : Nat} {held : Bool}
set_option maxRecDepth 100000 in
theorem open_attrs_cap {fuel : Nat} {v : Value} {x : DataW H × List MemPlace} (h : DataW.trod enc Tryz.prog W base (fun _ => true) held fuel 81 [v] = some x) :
    ∃ a len c, v = .slice a len c ∧ len ≤ c := by
  rcases open_slice Tryz.underlying81 h with ⟨hcs, _⟩ | ⟨a, len, cap, m, n, D, Pl, hcs, _, hl, _⟩
  · simp at hcs; exact ⟨_, _, _, hcs, Nat.le_refl _⟩
  · simp at hcs; exact ⟨_, _, _, hcs, hl⟩
set_option maxRecDepth 100000 in
theorem open_nodes {r : Reach} {b0 : Nat} {v : Value} {d : DataW H} {p : List MemPlace} (hv : Value.okWide Tryz.prog W r b0 45 v) (h : DataW.Trod enc Tryz.prog W base (fun _ => true) held 45 v d p) :
    ∃ a l c, v = .slice a l.length c ∧ Nodes W a l ∧ okAll l ∧ l.length ≤ maxLen := by
  obtain ⟨a0, len0, cap0, rfl⟩ := okWide_slice Tryz.underlying45 hv
  obtain ⟨fuel, hf⟩ := h
  rcases open_slice Tryz.underlying45 hf with ⟨hcs, _⟩ | ⟨a, len, cap, m, n, D, Pl, hcs, _, hl, hm, hmm, _, hx⟩
  · simp [Value.cells] at hcs
    obtain ⟨rfl, rfl, rfl⟩ := hcs
    exact ⟨none, [], 0, rfl, Or.inl rfl, fun i hi => absurd hi (by simp), by simp⟩
  · simp [Value.cells] at hcs
    obtain ⟨rfl, rfl, rfl⟩ := hcs
    simp at hmm
    subst hmm
    have ce : Tryz.prog.cellsOf 83 = 4 := by kernel_rfl
    rw [ce] at hx
    have key : ∀ i, i < m → ∃ n : ND, okND n ∧ W.cell? (a.add (i * 4)) = some (.string n.name) ∧ W.cell? (a.add (i * 4 + 1)) = some (.int .i64 n.up) ∧ (∃ aa c, W.cell? (a.add (i * 4 + 2)) = some (.slice aa n.attrs.length c) ∧ n.attrs.length ≤ c ∧ Attrs W aa n.attrs) ∧ W.cell? (a.add (i * 4 + 3)) = some (.string n.text) := by
      intro i hi
      obtain ⟨cs', h1, h2⟩ := hx i hi
      obtain ⟨_, hlen, hcell⟩ := World.cells?_some h1
      obtain ⟨xs, k, hk, hxy, _, hxl, hf⟩ := DataW.trod_struct Tryz.underlying83 h2
      match xs, hxl, cs', hlen with
      | [y0, y1, y2, y3], _, [v0, v1, v2, v3], _ =>
        have g0 := hf 0 _ rfl
        have g1 := hf 1 _ rfl
        have g2 := hf 2 _ rfl
        have g3 := hf 3 _ rfl
        have e9 : Tryz.prog.cellsOf 9 = 1 := by kernel_rfl
        have e3 : Tryz.prog.cellsOf 3 = 1 := by kernel_rfl
        have es : Tryz.prog.cellsOf 81 = 1 := by kernel_rfl
        simp [e9, e3, es] at g0 g1 g2 g3
        obtain ⟨name, up, l, text, aa, c, rfl, rfl, rfl, rfl, hok, hat⟩ := node_of g0 g1 g2 g3
        obtain ⟨_, len, cc, hsl, hcap⟩ := open_attrs_cap g2
        simp at hsl
        obtain ⟨rfl, rfl, rfl⟩ := hsl
        have c0 := hcell 0 (by omega)
        have c1 := hcell 1 (by omega)
        have c2 := hcell 2 (by omega)
        have c3 := hcell 3 (by omega)
        rw [add_add] at c0 c1 c2 c3
        exact ⟨⟨name, up, l, text⟩, hok, by simpa using c0, by simpa using c1, ⟨_, _, by simpa using c2, hcap, hat⟩, by simpa using c3⟩
    haveI : Inhabited ND := ⟨noND⟩
    obtain ⟨N, hN⟩ := choose_lt key
    have en : ∀ i, i < len0 → nodeAt ((List.range len0).map N) i = N i := fun i hi => by simp [nodeAt, hi]
    refine ⟨some a, (List.range len0).map N, m, by simp, ?_, fun i hi => ?_, by simp; omega⟩
    · by_cases h0 : len0 = 0
      · subst h0; exact Or.inl rfl
      · have hc := (hN 0 (by omega)).2.1
        have ea := addr_spot (show W.cell? (a.add 0) = some _ by simpa using hc)
        refine Or.inr ⟨a.block, a.off, by rw [← ea], ?_, fun i hi => ?_⟩
        · rw [ea, add_at] at hc
          exact World.block_lt_of_cell? W ⟨a.block, a.off + 0 * 4, none⟩ hc
        · have hi' : i < len0 := by simpa using hi
          obtain ⟨_, g0, g1, ⟨aa, c, g2, hcap, hat⟩, g3⟩ := hN i (by omega)
          rw [ea, add_at] at g0 g1 g2 g3
          rw [en i hi']
          exact ⟨g0, by rw [Nat.add_assoc]; exact g1, ⟨aa, c, by rw [Nat.add_assoc]; exact g2, hcap, hat⟩, by rw [Nat.add_assoc]; exact g3⟩
    · have hi' : i < len0 := by simpa using hi
      rw [en i hi']
      exact (hN i (by omega)).1
end
end Go.Proofs.YtnkmdmmlpidcmaaGreatDoor
namespace Go.Proofs.YtnkmdmmlpidcmaaGreatDoor
open Go.ChangeShapes Go.WideShapes Go.ChangeAt Go.RowKit
set_option linter.unusedVariables false

theorem handed_shaped {H : Type} {enc : TypeId × Value → H} {a : Assume} {C : Checked} {os : Os} {f : FuncId} {fn : Func} {s : ChangeSpec} {conds : List PathCond} {apart fresh handsOn again : Bool} {X : World → Array Value → Prop}
    (hX : ∀ (w w' : World) (args : Array Value), w.heap = w'.heap → X w args → X w' args)
    (own : ownKnob C.prog.godebug = none) (started : os.Started) (noInit : C.prog.inits.idxOf? f = none) (hfn : C.prog.funcs[f]? = some fn)
    (witness : ∃ (w : World) (tape : Tape) (i : Input), w.os = os ∧ (w.forCall tape i).Shaped C.prog ∧ i.vars = [] ∧ Input.okWide C.prog (w.forCall tape i) .any w.heap.size f i ∧
      ((s.pre enc C.prog fn conds apart (w.forCall tape i).memory i.args ∧ X (w.forCall tape i).memory i.args) ∧ sizedMet enc C.prog fn (OpenSpec.ofChange s) apart (w.forCall tape i).memory i.args) ∧ a.holds C.prog (lone (Frame.enter C.prog f i.args .normal) [] (w.forCall tape i)))
    (contract : ∀ (W : World) (base : Nat) (args : Array Value) (ds gs : List (DataW H)) (before : List MemPlace),
      (∀ (j : Nat) t v, fn.params[j]? = some t → args[j]? = some v → Value.okWide C.prog W .any base t v) →
      DataW.Whole enc C.prog fn.params.toList s.vars apart W args.toList ds gs before →
      conds.all (PathCond.test C.prog ⟨fn.params.toList, ds, s.plain.varTypes C.prog, gs⟩) = true →
      (DataW.weightsEach C.prog (fn.params.toList ++ s.plain.varTypes C.prog) (ds ++ gs)).all (· ≤ reachBytes) = true → X W args →
      W.ShapedOpen C.prog →
      a.holds C.prog (lone (Frame.enter C.prog f args .normal) [] W) →
      Calls C.prog f args W fun e W' => ∃ v, e = .returned v ∧ s.post enc C.prog fn apart fresh handsOn again W args v W') :
    ReturnsInHanded a C os f .any (fun w args => (s.pre enc C.prog fn conds apart w args ∧ X w args) ∧ sizedMet enc C.prog fn (OpenSpec.ofChange s) apart w args) (s.post enc C.prog fn apart fresh handsOn again) := by
  refine returnsInHanded_of_calls own started noInit witness fun w tape i _ hsh _ hok hpre hh => ?_
  obtain ⟨_, _, _, fn2, hfn2, _, _, _, _, hval⟩ := hok
  obtain rfl : fn2 = fn := Option.some.inj (hfn2.symm.trans hfn)
  obtain ⟨⟨⟨ds, gs, bf, hw, hc⟩, hx⟩, hz⟩ := hpre
  have call := contract (w.forCall tape i) w.heap.size i.args ds gs bf hval (DataW.Whole.of_heap (w' := w.forCall tape i) (by rfl) hw) hc (hz.weights hw) (hX _ _ _ (by rfl) hx) hsh hh
  refine call.mono fun e W' ⟨v, he, hp⟩ => ?_
  subst he
  exact ChangeSpec.post_blind hp
end Go.Proofs.YtnkmdmmlpidcmaaGreatDoor
