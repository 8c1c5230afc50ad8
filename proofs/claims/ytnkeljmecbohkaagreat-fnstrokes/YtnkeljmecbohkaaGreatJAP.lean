/-
  Strokes of a line as the reference has them; each theorem na
-/
import Derived.Test.YtnkeljmecbohkaaGreatJAO
import Derived.Test.YtnkeljmecbohkaaGreatJAE
import Derived.Test.YtnkeljmecbohkaaGreatJAM
import Derived.Deep.Upon
import Derived.Deep.DeepCutAuto
import Derived.Deep.CutBlock
import Derived.Deep.QuietTactic
import Derived.BigQuiet
import Derived.Test.YtnkeljmecbohkaaGreatJAG
import Derived.Test.YtnkeljmecbohkaaGreatJAA
namespace Go.Proofs.YtnkeljmecbohkaaGreat
open Go.ChangeShapes Go.WideShapes Go.ChangeAt Go.RowKit
set_option linter.unusedVariables false
structure GQ (q : List Pnt) (cl : Bool) (h : Int) : Prop where
 two : 2 ≤ q.length
 many : q.length ≤ 600
 near : ∀ i, i < q.length → nearB (ptAt q i) = true
 apart : apartQ cl q
 h0 : 0 ≤ h
 h1 : h ≤ 4194304
theorem GQ.nx {q : List Pnt} {cl : Bool} {h : Int} (g : GQ q cl h) (i : Nat) : nearB (nxtP q i) = true := g.near _ (Nat.mod_lt _ (by have := g.two; omega))
theorem segN_le (cl : Bool) (n : Nat) : segN cl n ≤ n := by unfold segN; cases cl <;> simp
theorem segN_pos {cl : Bool} {n : Nat} (h : 2 ≤ n) : 0 < segN cl n := by unfold segN; cases cl <;> simp <;> omega
theorem GQ.seg {q : List Pnt} {cl : Bool} {h : Int} (g : GQ q cl h) {i : Nat} (hi : i < segN cl q.length) : segP q h i = ⟨ptAt q i, nxtP q i, sideP (ptAt q i) (nxtP q i) h⟩ := by
 unfold segP sdV
 rw [if_pos ⟨g.near i (Nat.lt_of_lt_of_le hi (segN_le _ _)), g.nx i, g.apart i hi, g.h0, g.h1⟩]
theorem side_wid (a b : Pnt) (h : Int) : wid (sideP a b h).1 ∧ wid (sideP a b h).2 := by
 unfold sideP wid
 have h1 := fmV_bd h (divV (a.2 - b.2) (szV a b))
 have h2 := fmV_bd h (divV (b.1 - a.1) (szV a b))
 simp only
 omega
theorem side_bd (a b : Pnt) (h : Int) : (-1099511627776 ≤ (sideP a b h).1 ∧ (sideP a b h).1 ≤ 1099511627776) ∧ (-1099511627776 ≤ (sideP a b h).2 ∧ (sideP a b h).2 ≤ 1099511627776) := ⟨fmV_bd _ _, fmV_bd _ _⟩
theorem near_wid {p : Pnt} (h : nearB p = true) : wid p.1 ∧ wid p.2 := by
 obtain ⟨h1, h2⟩ := nearB_nr h
 unfold nr at h1 h2
 unfold wid
 omega
theorem GQ.wsg {q : List Pnt} {cl : Bool} {h : Int} (g : GQ q cl h) {i : Nat} (hi : i < segN cl q.length) : wsg (segP q h i) := by
 rw [g.seg hi]
 exact ⟨near_wid (g.near i (Nat.lt_of_lt_of_le hi (segN_le _ _))), near_wid (g.nx i), side_wid _ _ _⟩
def joinS (j h : Int) (a p b : Pnt) : List Pnt := if j = 2 then roundsP p.1 p.2 h h 0 32 else bevelL a.1 a.2 p.1 p.2 (sideP a p h).1 (sideP a p h).2 p.1 p.2 b.1 b.2 (sideP p b h).1 (sideP p b h).2
def prvP (q : List Pnt) (k : Nat) : Pnt := ptAt q ((k + q.length - 1) % q.length)
def cornS (j h : Int) (q : List Pnt) (cl : Bool) : Nat → List LD
 | 0 => []
 | i + 1 => cornS j h q cl i ++ (if cl = true ∨ (0 < i ∧ i < q.length - 1) then [⟨joinS j h (prvP q i) (ptAt q i) (nxtP q i), true⟩] else [])
theorem prev_mod {n k : Nat} (h : k < n) (h0 : 0 < k) : (k + n - 1) % n = k - 1 := by
 rw [show k + n - 1 = (k - 1) + n by omega, Nat.add_mod_right, Nat.mod_eq_of_lt (by omega)]
theorem prev_mod0 {n : Nat} (h : 0 < n) : (0 + n - 1) % n = n - 1 := by rw [Nat.zero_add, Nat.mod_eq_of_lt (by omega)]
theorem cornS_step {q : List Pnt} {cl : Bool} {h : Int} (g : GQ q cl h) (j : Int) : ∀ k, k ≤ segN cl q.length → cornS j h q cl k = cornsK (joinJ j h) (segsK q h (segN cl q.length)) cl k
  | 0, _ => rfl
  | k + 1, hk => by
    have h2 := g.two
    have hsl := segN_le cl q.length
    rw [cornS, cornsK, cornS_step g j k (by omega)]
    congr 1
    rw [segsK_len]
    by_cases hc : k = 0 ∧ cl = false
    · rw [if_pos hc, if_neg (by rintro (e | ⟨e, _⟩); · rw [hc.2] at e; cases e
                                · omega)]
    · rw [if_neg hc]
      have hyes : cl = true ∨ (0 < k ∧ k < q.length - 1) := by
        cases cl with
        | true => exact Or.inl rfl
        | false =>
          right
          have hs : segN false q.length = q.length - 1 := rfl
          rw [hs] at hk
          refine ⟨?_, by omega⟩
          rcases Nat.eq_zero_or_pos k with e | e
          · exact absurd ⟨e, rfl⟩ hc
          · exact e
      rw [if_pos hyes]
      have hm : (k + segN cl q.length - 1) % segN cl q.length < segN cl q.length := Nat.mod_lt _ (by omega)
      rw [segsK_at _ _ _ _ hm, segsK_at _ _ _ _ (by omega), g.seg hm, g.seg (show k < segN cl q.length by omega)]
      have e1 : (k + segN cl q.length - 1) % segN cl q.length = (k + q.length - 1) % q.length ∧ ((k + segN cl q.length - 1) % segN cl q.length + 1) % q.length = k := by
        cases cl with
        | true =>
          have hs : segN true q.length = q.length := rfl
          rw [hs] at hk ⊢
          refine ⟨rfl, ?_⟩
          rcases Nat.eq_zero_or_pos k with e | e
          · subst e
            rw [prev_mod0 (by omega), Nat.sub_add_cancel (by omega), Nat.mod_self]
          · rw [prev_mod (by omega) e, Nat.sub_add_cancel e, Nat.mod_eq_of_lt (by omega)]
        | false =>
          have hs : segN false q.length = q.length - 1 := rfl
          rw [hs] at hk ⊢
          have e : 0 < k := by
            rcases hyes with e | e
            · cases e
            · exact e.1
          rw [prev_mod (by omega) e, prev_mod (by omega) e, Nat.sub_add_cancel e, Nat.mod_eq_of_lt (by omega)]
          exact ⟨rfl, rfl⟩
      have e2 : nxtP q ((k + segN cl q.length - 1) % segN cl q.length) = ptAt q k := by unfold nxtP; rw [e1.2]
      rw [e2, e1.1]
      rfl
theorem cornS_all {q : List Pnt} {cl : Bool} {h : Int} (g : GQ q cl h) (j : Int) : cornS j h q cl q.length = cornsK (joinJ j h) (segsK q h (segN cl q.length)) cl (segN cl q.length) := by
  have h2 := g.two
  cases cl with
  | true => exact cornS_step g j q.length (Nat.le_refl _)
  | false =>
    have hs : segN false q.length = q.length - 1 := rfl
    rw [← cornS_step g j (segN false q.length) (Nat.le_refl _), hs]
    obtain ⟨m, hm⟩ : ∃ m, q.length = m + 1 := ⟨q.length - 1, by omega⟩
    rw [hm, Nat.add_sub_cancel, cornS, if_neg (by rintro (e | ⟨_, e⟩); · cases e
                                                  · omega), List.append_nil]
def capsS (c h : Int) (q : List Pnt) : List LD :=
 if c = 2 then [⟨roundsP (ptAt q 0).1 (ptAt q 0).2 h h 0 32, true⟩, ⟨roundsP (lastP q).1 (lastP q).2 h h 0 32, true⟩]
 else if c = 3 then [⟨squareL (ptAt q 0).1 (ptAt q 0).2 (sideP (ptAt q 0) (ptAt q 1) h).1 (sideP (ptAt q 0) (ptAt q 1) h).2 (-(sideP (ptAt q 0) (ptAt q 1) h).2) (sideP (ptAt q 0) (ptAt q 1) h).1, true⟩,
  ⟨squareL (lastP q).1 (lastP q).2 (sideP (ptAt q (q.length - 2)) (lastP q) h).1 (sideP (ptAt q (q.length - 2)) (lastP q) h).2 (sideP (ptAt q (q.length - 2)) (lastP q) h).2 (-(sideP (ptAt q (q.length - 2)) (lastP q) h).1), true⟩] else []
theorem capsS_is {q : List Pnt} {h : Int} (g : GQ q false h) (c : Int) : capsS c h q = capsL c h (segsK q h (segN false q.length)) := by
 have h2 := g.two
 have hs : segN false q.length = q.length - 1 := rfl
 unfold capsL capsS
 rw [segsK_len, segsK_at _ _ _ _ (segN_pos h2), segsK_at _ _ _ _ (by have := segN_pos (cl := false) h2; omega), g.seg (segN_pos h2), g.seg (show segN false q.length - 1 < _ by have := segN_pos (cl := false) h2; omega), hs]
 have e0 : nxtP q 0 = ptAt q 1 := by unfold nxtP; rw [Nat.zero_add, Nat.mod_eq_of_lt (by omega)]
 have e1 : nxtP q (q.length - 1 - 1) = lastP q := by unfold nxtP lastP; rw [Nat.sub_add_cancel (by omega), Nat.mod_eq_of_lt (by omega)]
 rw [e0, e1, show q.length - 1 - 1 = q.length - 2 by omega]
 unfold capL
 split
 ·rfl
 ·split
  ·rfl
  ·rfl
def strkR (q : List Pnt) (cl : Bool) (h j c : Int) : List LD := (segsK q h (segN cl q.length)).map bandL ++ cornS j h q cl q.length ++ (if cl then [] else capsS c h q)
theorem strkR_is {q : List Pnt} {cl : Bool} {h : Int} (g : GQ q cl h) (j c : Int) : strkR q cl h j c = strkQ q cl h j c := by
 unfold strkR strkQ
 rw [cornS_all g]
 cases cl with
 | true => rfl
 | false => rw [capsS_is g]
theorem GQ.of {l : LD} {h : Int} (h2 : 2 ≤ (ddP l.pts l.closed).length) (hm : l.pts.length ≤ 600) (hn : ∀ x, x ∈ l.pts → nearB x = true) (h0 : 0 ≤ h) (h1 : h ≤ 4194304) : GQ (ddP l.pts l.closed) l.closed h :=
 ⟨h2, Nat.le_trans (ddP_len _ _) hm, fun i hi => hn _ (ddP_in _ _ _ (ptAt_mem hi)), ddP_apart _ _ h2, h0, h1⟩
theorem mul_bd {a b A B : Int} (a0 : 0 ≤ a) (a1 : a ≤ A) (b0 : -B ≤ b) (b1 : b ≤ B) (hB : 0 ≤ B) : -(A * B) ≤ a * b ∧ a * b ≤ A * B := by
 have h1 : a * B ≤ A * B := Int.mul_le_mul_of_nonneg_right a1 hB
 have h2 : a * b ≤ a * B := Int.mul_le_mul_of_nonneg_left b1 a0
 have h3 : a * (-B) ≤ a * b := Int.mul_le_mul_of_nonneg_left b0 a0
 rw [Int.mul_neg] at h3
 omega
theorem fm_small {h s : Int} (h0 : 0 ≤ h) (h1 : h ≤ 4194304) (s0 : -200000 ≤ s) (s1 : s ≤ 200000) : -20000000 ≤ fmV h s ∧ fmV h s ≤ 20000000 := by
 have hm := mul_bd h0 h1 s0 s1 (by omega)
 unfold fmV cutM
 split
 ·omega
 ·omega
theorem cosV_bd (k : Nat) : -200000 ≤ cosV k ∧ cosV k ≤ 200000 := by
 have := sinV_bd (k + 8)
 have e : sinV (k + 8) = cosV k := by unfold sinV cosV; congr 1 <;> omega
 rw [e] at this
 exact this
theorem el_near {p : Pnt} {h : Int} (hp : nearB p = true) (h0 : 0 ≤ h) (h1 : h ≤ 4194304) : elV p.1 p.2 h h = (roundsP p.1 p.2 h h 0 32, true) := by
 obtain ⟨n1, n2⟩ := nearB_nr hp
 unfold nr at n1 n2
 have k1 : okEl p.1 p.2 h h = true := by
  unfold okEl
  simp only [List.all_cons, List.all_nil, Bool.and_true, Bool.and_eq_true, decide_eq_true_eq]
  exact ⟨⟨fixB_iff.2 (by omega), fixB_iff.2 (by omega), fixB_iff.2 (by omega), fixB_iff.2 (by omega)⟩, h0, h0⟩
 have k2 : ptsB (roundsP p.1 p.2 h h 0 32) = true := by
  unfold ptsB
  rw [List.all_eq_true]
  intro x hx
  unfold roundsP at hx
  obtain ⟨k, _, rfl⟩ := List.mem_map.1 hx
  have c := fm_small h0 h1 (cosV_bd (0 + k)).1 (cosV_bd (0 + k)).2
  have s := fm_small h0 h1 (sinV_bd (0 + k)).1 (sinV_bd (0 + k)).2
  unfold roundP ptB
  simp only [Bool.and_eq_true]
  exact ⟨fixB_iff.2 (by omega), fixB_iff.2 (by omega)⟩
 unfold elV
 rw [if_pos ⟨k1, k2⟩]
theorem run_qs (T t1 t2 : TypeId) (z0 z1 : Value) (bytes : Nat) (ht1 : Tryz.prog.underlying t1 = some (.slice T)) (ht2 : Tryz.prog.underlying t2 = some (.slice T))
  (hinfo : (Tryz.prog.info? T).map (fun i => (i.zero, i.size, i.bytes)) = some (some (.agg #[z0, z1]), 2, bytes)) (hb : bytes ≤ 64) (hzz : (Value.agg #[z0, z1]).cells.size = 2)
  (ty : TypeId) (w : World) (B B2 : Nat) (v u : Value) (l news : List VV) (hown : OwnQ T w B v l) (hu : OwnQ T w B2 u news) (h1 : ∀ x ∈ flat2 news, x.oneCell' = true) (hl : l.length + news.length ≤ 10000000) (hB : B ≤ w.heap.size) :
  ∃ v' w', (Builtin.append_ #[t1, t2] ty #[v, u]).run Tryz.prog w = .ok v' w' ∧ OwnQ T w' B v' (l ++ news) ∧ Ext v v' w w' := by
 by_cases h0 : 0 < news.length
 ·rcases OwnQ.form hu with ⟨_, e⟩ | ⟨g, c, rfl, _, _, _, _, hc, _⟩
  ·rw [e] at h0; simp at h0
  ·obtain ⟨g', c', w', r1, r2, r3⟩ := run_q T t1 t2 z0 z1 bytes ht1 ht2 hinfo hb hzz ty w B v l news hown g 0 c (fun i hi => by rw [Nat.zero_add]; exact hc i hi) h1 h0 hl hB
   exact ⟨_, w', r1, r2, r3⟩
 ·have hn : news = [] := List.eq_nil_of_length_eq_zero (by omega)
  subst hn
  obtain ⟨i0, hi, _⟩ := Option.map_eq_some_iff.1 hinfo
  obtain ⟨sa, sn, sc, hv⟩ := hown.slice
  subst hv
  have hle : sn ≤ sc := by
   rcases OwnQ.form hown with ⟨e, _⟩ | ⟨g, c, e, _, _, h, _⟩
   ·injection e with e1 e2 e3; omega
   ·injection e with e1 e2 e3; omega
  obtain ⟨ua, un, uc, hue⟩ := hu.slice
  subst hue
  have hu0 : un = 0 := by
   rcases OwnQ.form hu with ⟨e, _⟩ | ⟨g, c, e, _, _, h, _⟩
   ·injection e
   ·injection e
  subst hu0
  refine ⟨_, w, ?_, by rw [List.append_nil]; exact hown, Ext.refl _ _⟩
  rw [append_mix t1 t2 ty T ht1 ht2]
  cases sa <;> cases ua <;> simp [Builtin.append_, run_underlying ht1, sizeOf, typeInfo, hi, Builtin.lenOf, Builtin.firstCells, hle, storeCells, loadCells, loadCellsFrom]
theorem wpl_qs (T t1 t2 : TypeId) (z0 z1 : Value) (bytes : Nat) (ht1 : Tryz.prog.underlying t1 = some (.slice T)) (ht2 : Tryz.prog.underlying t2 = some (.slice T))
  (hinfo : (Tryz.prog.info? T).map (fun i => (i.zero, i.size, i.bytes)) = some (some (.agg #[z0, z1]), 2, bytes)) (hb : bytes ≤ 64) (hzz : (Value.agg #[z0, z1]).cells.size = 2)
  (w : World) {ops : Array Oper} {rest : List Oper} {o : Oper} {a : Act} {Q : PQ} (hgd : o.guard = none) (s x : Operand) (ho : o.op = .call { callee := .builtin .append, args := #[s, x], argTypes := #[t1, t2] })
  (B B2 : Nat) (v u : Value) (l news : List VV) (hs : a.eval s = v) (hx : a.eval x = u) (hown : OwnQ T w B v l) (hu : OwnQ T w B2 u news) (h1 : ∀ x ∈ flat2 news, x.oneCell' = true) (hl : l.length + news.length ≤ 10000000) (hB : B ≤ w.heap.size)
  (h : ∀ v' w', OwnQ T w' B v' (l ++ news) → Ext v v' w w' → wpList Tryz.prog ops Q rest (a.put o.dst v') w') : wpList Tryz.prog ops Q (o :: rest) a w := by
 refine wpList_plain hgd fun K hK => ?_
 obtain ⟨v', w', hr, h2, h3⟩ := run_qs T t1 t2 z0 z1 bytes ht1 ht2 hinfo hb hzz o.type w B B2 v u l news hown hu h1 hl hB
 unfold Oper.wp execOp
 simp only [ho, resolve, invoke, builtin, Sem.run_bind, Sem.run_pure, Result.andThen_ok, List.map_toArray, List.map_cons, List.map_nil, hs, hx, hr]
 exact hK _ _ (h v' w' h2 h3)
structure ItsOk (w : World) (B : Nat) (it : Its) : Prop where
 pts : ∀ i, i < it.length → OwnP w B (itAt it i).1 (itAt it i).2.pts
 apart : ∀ i j, i ≠ j → i < it.length → j < it.length → ∀ b, (itAt it i).1.ownBlock = some b → (itAt it j).1.ownBlock ≠ some b
theorem OwnLn.its {w : World} {B : Nat} {v : Value} {it : Its} (h : OwnLn w B v it) : ItsOk w B it := ⟨h.pts, h.apart⟩
theorem ItsOk.nw {w w' : World} {B : Nat} {it : Its} (h : ItsOk w B it) (k : Nw w w') : ItsOk w' B it := ⟨fun i hi => (h.pts i hi).nw k, h.apart⟩
theorem ItsOk.base {w : World} {B B' : Nat} {it : Its} (h : ItsOk w B it) (hB : B' ≤ B) : ItsOk w B' it := ⟨fun i hi => OwnQ.base (h.pts i hi) hB, h.apart⟩
theorem itAt_l (a b : Its) (i : Nat) (h : i < a.length) : itAt (a ++ b) i = itAt a i := by simp [itAt, List.getElem?_append, h]
theorem itAt_r (a b : Its) (i : Nat) (h : ¬ i < a.length) : itAt (a ++ b) i = itAt b (i - a.length) := by simp [itAt, List.getElem?_append, h]
theorem ItsOk.app {w0 w : World} {B : Nat} {a b : Its} (h1 : ItsOk w0 B a) (k : Nw w0 w) (h2 : ItsOk w w0.heap.size b) (hB : B ≤ w0.heap.size) : ItsOk w B (a ++ b) := by
 refine ⟨fun i hi => ?_, fun i j hij hi hj x hx => ?_⟩
 ·rw [List.length_append] at hi
  by_cases e : i < a.length
  ·rw [itAt_l _ _ _ e]; exact (h1.pts i e).nw k
  ·rw [itAt_r _ _ _ e]; exact OwnQ.base (h2.pts _ (by omega)) hB
 ·rw [List.length_append] at hi hj
  by_cases e : i < a.length
  ·rw [itAt_l _ _ _ e] at hx
   have b1 := (OwnQ.lt (h1.pts i e) x hx).2
   by_cases e2 : j < a.length
   ·rw [itAt_l _ _ _ e2]; exact h1.apart i j hij e e2 x hx
   ·rw [itAt_r _ _ _ e2]
    intro e3
    have := (OwnQ.lt (h2.pts _ (by omega)) x e3).1
    omega
  ·rw [itAt_r _ _ _ e] at hx
   have b1 := (OwnQ.lt (h2.pts _ (by omega)) x hx).1
   by_cases e2 : j < a.length
   ·rw [itAt_l _ _ _ e2]
    intro e3
    have := (OwnQ.lt (h1.pts j e2) x e3).2
    omega
   ·rw [itAt_r _ _ _ e2]
    exact h2.apart _ _ (by omega) (by omega) (by omega) x hx
theorem ItsOk.one {w : World} {B : Nat} {it : Its} (h : ItsOk w B it) : ∀ x ∈ flat2 (vLn it), x.oneCell' = true := by
 intro x hx
 have key : ∀ (l : Its), (∀ p, p ∈ l → ∃ a n c, p.1 = Value.slice a n c) → ∀ x ∈ flat2 (vLn l), x.oneCell' = true := by
  intro l
  induction l with
  | nil => intro _ x hx; simp [vLn, flat2] at hx
  | cons p l ih =>
   intro hp x hx
   simp only [vLn, List.map_cons, flat2, List.mem_cons] at hx
   rcases hx with rfl | rfl | hx
   ·obtain ⟨a, n, c, e⟩ := hp p (List.mem_cons_self ..); rw [e]; rfl
   ·rfl
   ·exact ih (fun q hq => hp q (List.mem_cons_of_mem _ hq)) x hx
 refine key it (fun p hp => ?_) x hx
 obtain ⟨i, hi, rfl⟩ := List.getElem_of_mem hp
 have := OwnQ.slice (h.pts i hi)
 unfold itAt at this
 rw [show it.getD i (undef, noLD) = it[i] by simp [hi]] at this
 exact this
theorem ItsOk.own {w w' : World} {B : Nat} {v : Value} {it : Its} (h : ItsOk w B it) (k : Nw w w') (hv : OwnQ 25 w' w.heap.size v (vLn it)) (hB : B ≤ w.heap.size) : OwnLn w' B v it :=
 ⟨OwnQ.base hv hB, fun i hi => (h.pts i hi).nw k, fun i hi b hb e => by
  have h1 := (OwnQ.lt (h.pts i hi) b hb).2
  have h2 := (OwnQ.lt hv b e).1
  omega, h.apart⟩
theorem OwnLn.puts {wS w w' : World} {B : Nat} {v v' u : Value} {it it2 : Its} (h : OwnLn wS B v it) (k : Nw wS w) (hB : B ≤ wS.heap.size) (hu : ItsOk w wS.heap.size it2) (ho : OwnQ 25 w' B v' (vLn (it ++ it2))) (x : Ext v v' w w') : OwnLn w' B v' (it ++ it2) := by
 have hi0 : ItsOk w B (it ++ it2) := ItsOk.app h.its k hu hB
 have hvl : ∀ b, v.ownBlock = some b → b < wS.heap.size := fun b hb => (OwnQ.lt h.own b hb).2
 have hfar : ∀ i, i < (it ++ it2).length → ∀ b, (itAt (it ++ it2) i).1.ownBlock = some b → v.ownBlock ≠ some b := fun i hi b hb e => by
  rw [List.length_append] at hi
  by_cases e1 : i < it.length
  ·rw [itAt_l _ _ _ e1] at hb; exact h.far i e1 b hb e
  ·rw [itAt_r _ _ _ e1] at hb
   have h1 := (OwnQ.lt (hu.pts _ (by omega)) b hb).1
   have h2 := hvl b e
   omega
 refine ⟨ho, fun i hi => ?_, fun i hi b hb => ?_, hi0.apart⟩
 ·refine OwnQ.keep (hi0.pts i hi) x ?_
  cases hc : (itAt (it ++ it2) i).1.ownBlock with
  | none => exact Or.inl rfl
  | some b => exact Or.inr (fun e => hfar i hi b hc e.symm)
 ·exact Ext.apart x (OwnQ.lt (hi0.pts i hi) b hb).2 (hfar i hi b hb)
set_option maxHeartbeats 1000000 in
theorem iaddLns (w : World) (b o B B2 : Nat) (v u : Value) (it it2 : Its) (hbox : w.cell? ⟨b, o, none⟩ = some v) (hfr : w.frozen? ⟨b, o, none⟩ = false) (hown : OwnQ 25 w B v (vLn it)) (hu : OwnQ 25 w B2 u (vLn it2)) (h1 : ∀ x ∈ flat2 (vLn it2), x.oneCell' = true)
  (hlen : it.length + it2.length ≤ 10000000) (hB : B ≤ w.heap.size) (hne : v.ownBlock ≠ some b) :
  Calls Tryz.prog 44 #[.pointer (some ⟨b, o, none⟩), u] w fun e w' => e = .returned (.tuple #[]) ∧ ∃ v' w1, OwnQ 25 w1 B v' (vLn (it ++ it2)) ∧ Ext v v' w w1 ∧ w' = w1.setCell ⟨b, o, none⟩ v' := by
 have hb : b < w.heap.size := World.block_lt_of_cell? w ⟨b, o, none⟩ hbox
 obtain ⟨sa, sn, sc, rfl⟩ := OwnQ.slice hown
 obtain ⟨ua, un, uc, rfl⟩ := OwnQ.slice hu
 have HO : Hid _ := hown
 have HU : Hid _ := hu
 have H1 : Hid _ := h1
 have HB : Hid (B ≤ w.heap.size) := hB
 have HL : Hid (it.length + it2.length ≤ 10000000) := hlen
 have HE : Hid ((Value.slice sa sn sc).ownBlock ≠ some b) := hne
 clear hown hu hB hlen hne h1
 go_enter Tryz.func44, Tryz.ntmps44
 go_wp2_with (at_builtin; (refine wpl_qs 25 65 29 (.slice none 0 0) (.bool false) 32 under_llnsD under_lns info_line (by decide) rfl w rfl (.tmp 7) (.tmp 8) rfl B B2 (.slice sa sn sc) (.slice ua un uc) (vLn it) (vLn it2) rfl rfl HO.out HU.out H1.out ?cl HB.out ?_))
 case cl => rw [vLn_len, vLn_len]; exact HL.out
 intro v' w1 h2 h3
 rw [← vLn_append] at h2
 obtain ⟨xa, xn, xc, hx⟩ := OwnQ.slice h2
 subst hx
 have y0 : w1.cell? ⟨b, o, none⟩ = some (.slice sa sn sc) := (Ext.cell h3 hb HE.out o).trans hbox
 have y1 : w1.frozen? ⟨b, o, none⟩ = false := (World.frozen?_of_block (w := w) (a := ⟨b, o, none⟩) (h3.1.block b hb (fun e => HE.out e.symm))).trans hfr
 have H2 : Hid _ := h2
 have H3 : Hid _ := h3
 clear h2 h3 hbox hfr
 go_wp2
 go_end0
 exact ⟨rfl, _, w1, H2.out, H3.out, rfl⟩
abbrev Prts := List (Value × Its)
def prAt (ps : Prts) (i : Nat) : Value × Its := ps.getD i (undef, [])
def flatP (ps : Prts) : Its := ps.flatMap (·.2)
theorem flatP_succ (ps : Prts) (k : Nat) (hk : k < ps.length) : flatP (ps.take (k + 1)) = flatP (ps.take k) ++ (prAt ps k).2 := by
 unfold flatP
 rw [List.take_add_one, List.getElem?_eq_getElem hk, List.flatMap_append]
 simp [prAt, hk]
theorem flatP_le (ps : Prts) (k : Nat) : (flatP (ps.take k)).length ≤ (flatP ps).length := by
 have e : flatP ps = flatP (ps.take k) ++ flatP (ps.drop k) := by
  unfold flatP
  rw [← List.flatMap_append, List.take_append_drop]
 rw [e, List.length_append]
 omega
set_option maxRecDepth 100000 in
set_option maxHeartbeats 4000000 in
theorem ijoined (w : World) (g c : Nat) (ps : Prts) (hg : g < w.heap.size) (hps : ps.length ≤ 3) (hfl : (flatP ps).length ≤ 1000000) (hc : ∀ i, i < ps.length → w.cell? ⟨g, i, none⟩ = some (prAt ps i).1)
  (hr : ∀ i, i < ps.length → ∃ B2, OwnQ 25 w B2 (prAt ps i).1 (vLn (prAt ps i).2)) (h1 : ∀ i, i < ps.length → ∀ x ∈ flat2 (vLn (prAt ps i).2), x.oneCell' = true) :
  Calls Tryz.prog 71 #[.slice (some ⟨g, 0, none⟩) ps.length c] w fun e w' => ∃ v, e = .returned v ∧ OwnQ 25 w' w.heap.size v (vLn (flatP ps)) ∧ Nw w w' := by
 have HS : Hid (∀ k, k < ps.length → flatP (ps.take (k + 1)) = flatP (ps.take k) ++ (prAt ps k).2) := flatP_succ ps
 have HL : Hid (∀ k, (flatP (ps.take k)).length ≤ 1000000) := fun k => Nat.le_trans (flatP_le ps k) hfl
 have H0 : Hid (flatP (ps.take 0) = []) := by show _ = _; simp [flatP]
 have HT : Hid (flatP (ps.take ps.length) = flatP ps) := by show _ = _; rw [List.take_length]
 have HC : Hid _ := hc
 have HR : Hid _ := hr
 have H1 : Hid _ := h1
 clear hc hr h1 hfl
 obtain ⟨F, hF⟩ : ∃ F : Nat → Its, (fun k => flatP (ps.take k)) = F := ⟨_, rfl⟩
 have hF' : ∀ k, flatP (ps.take k) = F k := fun k => congrFun hF k
 simp only [hF'] at HS HL H0 HT
 generalize flatP ps = R at *
 clear hF hF'
 obtain ⟨n, hn⟩ : ∃ n, ps.length = n := ⟨_, rfl⟩
 rw [hn] at HS HT HC HR H1 hps ⊢
 clear hn
 obtain ⟨W, hW⟩ : ∃ W, w.alloc (.cells #[.slice none 0 0] 65) = W := ⟨_, rfl⟩
 have z0 : W.cell? ⟨w.heap.size, 0, none⟩ = some (.slice none 0 0) := by rw [← hW]; simp
 have zf : W.frozen? ⟨w.heap.size, 0, none⟩ = false := by rw [← hW]; exact World.frozen?_alloc_at _ _ _ _ rfl
 have NW : Hid (Nw w W) := by show Nw _ _; rw [← hW]; exact (Below.refl _ _).alloc (Nat.le_refl _) _
 have hs : W.heap.size = w.heap.size + 1 := by rw [← hW]; simp
 have HW : Hid (_ = W) := hW
 clear hW
 go_enter Tryz.func71, Tryz.ntmps71
 go_upto_region 2 with fail
 rw [HW.out]
 go_wp2
 have ST : Hid (W.cell? ⟨w.heap.size, 0, none⟩ = some (.slice none 0 0) ∧ W.frozen? ⟨w.heap.size, 0, none⟩ = false) := ⟨z0, zf⟩
 clear z0 zf HW
 go_loopw [8] (fun i wr => ∃ (k : Nat) (v : Value), k ≤ n ∧ i = .int .i64 (k : Int) ∧ wr.cell? ⟨w.heap.size, 0, none⟩ = some v ∧ wr.frozen? ⟨w.heap.size, 0, none⟩ = false ∧ OwnQ 25 wr (w.heap.size + 1) v (vLn (F k)) ∧ Nw w wr) (fun i _ => n - (intOf i).toNat)
 case atStart => exact ⟨0, _, Nat.zero_le _, rfl, ST.out.1, ST.out.2, by rw [H0.out]; exact OwnQ.nil _ _ _, NW.out⟩
 case round =>
  obtain ⟨k, v, hk, rfl, q0, q1, ho, nw⟩ := hrel
  have HO : Hid (OwnQ 25 wr (w.heap.size + 1) v (vLn (F k))) := ho
  have NWr : Hid (Nw w wr) := nw
  obtain ⟨va, vn, vc, hv⟩ := OwnQ.slice ho
  subst hv
  clear ho nw
  by_cases hlt : k < n
  ·have d1 : decide ((k : Int) < (n : Int)) = true := by simp; omega
   have p0 : wr.cell? ⟨g, k, none⟩ = some (prAt ps k).1 := ((bcell NWr.out).1 _ _ hg).trans (HC.out k hlt)
   obtain ⟨B2, hr2⟩ := HR.out k hlt
   obtain ⟨ua, un, uc, hu⟩ := OwnQ.slice hr2
   rw [hu] at p0 hr2
   have hb : w.heap.size < wr.heap.size := World.block_lt_of_cell? wr ⟨w.heap.size, 0, none⟩ q0
   have HA : Hid _ := iaddLns wr w.heap.size 0 (w.heap.size + 1) B2 (.slice va vn vc) (.slice ua un uc) (F k) (prAt ps k).2 q0 q1 HO.out (OwnQ.nw hr2 NWr.out) (H1.out k hlt) (by have a1 := HL.out (k + 1); rw [HS.out k hlt, List.length_append] at a1; omega) (by omega) (fun e => by have := (OwnQ.lt HO.out _ e).1; omega)
   have HB : Hid (w.heap.size < wr.heap.size) := hb
   have Q1 : Hid (wr.frozen? ⟨w.heap.size, 0, none⟩ = false) := q1
   have Q0 : Hid (wr.cell? ⟨w.heap.size, 0, none⟩ = some (.slice va vn vc)) := q0
   clear hr2 hu hb q1
   go_wp2_with fail
   refine Calls.mono HA.out ?_
   rintro e w2 ⟨rfl, v', w1, o1, x1, rfl⟩
   have hne : (Value.slice va vn vc).ownBlock ≠ some w.heap.size := fun e => by have := (OwnQ.lt HO.out _ e).1; omega
   have hne' : v'.ownBlock ≠ some w.heap.size := Ext.apart x1 HB.out hne
   have s0 : (w1.setCell ⟨w.heap.size, 0, none⟩ v').cell? ⟨w.heap.size, 0, none⟩ = some v' := World.cell?_setCell_same w1 ⟨w.heap.size, 0, none⟩ _ ((Ext.cell x1 HB.out hne 0).trans Q0.out)
   have s1 : (w1.setCell ⟨w.heap.size, 0, none⟩ v').frozen? ⟨w.heap.size, 0, none⟩ = false := by
    rw [World.frozen?_setCell]
    exact (World.frozen?_of_block (w := wr) (a := ⟨w.heap.size, 0, none⟩) (x1.1.block _ HB.out (fun e => hne e.symm))).trans Q1.out
   have N1 : Hid (Nw w (w1.setCell ⟨w.heap.size, 0, none⟩ v')) := Below.trans NWr.out ((x1.below (fun g e => Nat.le_of_succ_le (OwnQ.lt HO.out g e).1) (by have := HB.out; omega)).setCell (Nat.le_refl _) _)
   have O1 : Hid (OwnQ 25 (w1.setCell ⟨w.heap.size, 0, none⟩ v') (w.heap.size + 1) v' (vLn (F (k + 1)))) := by
    show OwnQ _ _ _ _ _
    rw [HS.out k hlt]
    exact OwnQ.far o1 _ _ _ hne'
   have S : Hid _ := And.intro s0 s1
   clear s0 s1 o1 x1 hne hne' p0 q0
   generalize w1.setCell ⟨w.heap.size, 0, none⟩ v' = w3 at *
   go_wp2
   go_roundw
   case rel => exact ⟨k + 1, v', by omega, by go_num, S.out.1, S.out.2, O1.out, N1.out⟩
   case measure => simp [intOf]; omega
  ·obtain rfl : k = n := by omega
   have d1 : decide ((k : Int) < (k : Int)) = false := by simp
   go_wp2
   go_ret
   exact ⟨_, rfl, by rw [← HT.out]; exact OwnQ.base HO.out (Nat.le_succ _), NWr.out⟩
theorem ijoinOf (w : World) (j : Int) : Calls Tryz.prog 74 #[.int .i64 j] w fun e w' => e = .returned (if j = 2 then .func (.func 91) #[] #[] else .func (.func 92) #[] #[]) ∧ w' = w := by
 by_cases h : j = 2
 ·subst h
  rw [if_pos rfl]
  go_enter Tryz.func74, Tryz.ntmps74
  go_wp2
  go_ret
  exact ⟨rfl, rfl⟩
 ·rw [if_neg h]
  have d : (j == 2) = false := by simp [h]
  go_enter Tryz.func74, Tryz.ntmps74
  go_wp2
  go_ret
  exact ⟨rfl, rfl⟩
theorem icapOf (w : World) (c : Int) : Calls Tryz.prog 75 #[.int .i64 c] w fun e w' => e = .returned (if c = 2 then .func (.func 93) #[] #[] else if c = 3 then .func (.func 94) #[] #[] else .func (.func 95) #[] #[]) ∧ w' = w := by
 by_cases h : c = 2
 ·subst h
  rw [if_pos rfl]
  go_enter Tryz.func75, Tryz.ntmps75
  go_wp2
  go_ret
  exact ⟨rfl, rfl⟩
 ·rw [if_neg h]
  have d : (c == 2) = false := by simp [h]
  by_cases h3 : c = 3
  ·subst h3
   rw [if_pos rfl]
   go_enter Tryz.func75, Tryz.ntmps75
   go_wp2
   go_ret
   exact ⟨rfl, rfl⟩
  ·rw [if_neg h3]
   have d3 : (c == 3) = false := by simp [h3]
   go_enter Tryz.func75, Tryz.ntmps75
   go_wp2
   go_ret
   exact ⟨rfl, rfl⟩
theorem at_below {B : Nat} {w w' : World} {b o : Nat} {v : Value} (k : Below B w w') (hb : b < B) (h : w.cell? ⟨b, o, none⟩ = some v) : w'.cell? ⟨b, o, none⟩ = some v := (World.cell?_of_block (w := w) (w' := w') (a := ⟨b, o, none⟩) (Below.block k b hb)).trans h
set_option maxRecDepth 100000 in
set_option maxHeartbeats 8000000 in
theorem iwr (w : World) (a : Option Addr) (c : Nat) (p : List Pnt) (cl : Bool) (hp : 0 < p.length) (hp2 : p.length ≤ 600) (hr : Pts w a p) :
  Calls Tryz.prog 69 #[.agg #[.slice a p.length c, .bool cl]] w fun e w' => ∃ a' c', e = .returned (.slice a' (ddP p cl).length c') ∧ Pts w' a' (ddP p cl) ∧ Nw w w' := by
 obtain ⟨b, off, rfl, hlie⟩ := Pts.lie hr hp
 have HR : Hid (LieP w b off p) := hlie
 clear hlie hr
 have HY : Hid (∀ k, (k = 0 ∨ ptAt p k ≠ ptAt p (k - 1)) → ddK p (k + 1) = ddK p k ++ [ptAt p k]) := fun k h => by rw [ddK, if_pos h]
 have HX : Hid (∀ k, ¬ (k = 0 ∨ ptAt p k ≠ ptAt p (k - 1)) → ddK p (k + 1) = ddK p k) := fun k h => by rw [ddK, if_neg h]
 have HL : Hid (∀ k, (ddK p k).length ≤ k) := ddK_len p
 have HP : Hid (0 < (ddK p p.length).length) := ddK_pos p p.length hp
 have H0 : Hid (ddK p 0 = []) := rfl
 have HT : Hid (ddP p cl = trimQ cl (ddK p p.length)) := rfl
 obtain ⟨D, hD⟩ : ∃ D, ddK p = D := ⟨_, rfl⟩
 rw [hD] at HY HX HL H0 HT HP
 clear hD
 generalize ddP p cl = R at *
 obtain ⟨n, hn⟩ : ∃ n, p.length = n := ⟨_, rfl⟩
 have HN : Hid (p.length = n) := hn
 rw [hn] at HT HP hp hp2 ⊢
 clear hn
 obtain ⟨W, hW⟩ : ∃ W, (w.alloc (.cells #[.slice (some ⟨b, off, none⟩) n c, .bool cl] 25)).alloc (.cells #[.slice none 0 0] 64) = W := ⟨_, rfl⟩
 obtain ⟨bl, hbl⟩ : ∃ bl, w.heap.size = bl := ⟨_, rfl⟩
 have z0 : W.cell? ⟨bl, 0, none⟩ = some (.slice (some ⟨b, off, none⟩) n c) := by rw [← hW, ← hbl]; simp
 have z1 : W.cell? ⟨bl, 1, none⟩ = some (.bool cl) := by rw [← hW, ← hbl]; simp
 have lv : LV (bl + 1) W [] := by
  rw [← hW, ← hbl]
  have := LV.new (w.alloc (.cells #[.slice (some ⟨b, off, none⟩) n c, .bool cl] 25)) 64
  rw [World.size_alloc] at this
  exact this
 have NW : Hid (Nw w W) := by show Nw _ _; rw [← hW]; exact Nw.trans ((Below.refl _ _).alloc (Nat.le_refl _) _) ((Below.refl _ _).alloc (Nat.le_refl _) _)
 have HBL : Hid (w.heap.size = bl) := hbl
 have HW : Hid (_ = W) := hW
 have HZ : Hid (∀ w', Below (bl + 1) W w' → w'.cell? ⟨bl, 0, none⟩ = some (.slice (some ⟨b, off, none⟩) n c) ∧ w'.cell? ⟨bl, 1, none⟩ = some (.bool cl)) := fun w' k => ⟨at_below k (Nat.lt_succ_self _) z0, at_below k (Nat.lt_succ_self _) z1⟩
 have HNW : Hid (∀ w', Below (bl + 1) W w' → Nw w w') := fun w' k => Below.trans NW.out (Below.mono k (by rw [HBL.out]; exact Nat.le_succ _))
 have HSW : Hid (bl + 1 ≤ W.heap.size) := Nat.le_of_lt lv.lt
 have LV0 : Hid (LV (bl + 1) W []) := lv
 clear hW lv
 go_enter Tryz.func69, Tryz.ntmps69
 go_upto_region 2 with fail
 rw [HW.out]
 clear hbl
 go_wp2
 clear z0 z1
 go_loopw [10] (fun i wr => ∃ k : Nat, k ≤ n ∧ i = .int .i64 (k : Int) ∧ LV (bl + 1) wr (D k) ∧ Below (bl + 1) W wr) (fun i _ => n - (intOf i).toNat)
 case atStart => exact ⟨0, Nat.zero_le _, rfl, by rw [H0.out]; exact LV0.out, Below.refl _ _⟩
 case round =>
  obtain ⟨k, hk, rfl, hlv, hbe⟩ := hrel
  have HLV : Hid (LV (bl + 1) wr (D k)) := hlv
  have HBE : Hid (Below (bl + 1) W wr) := hbe
  clear hlv hbe
  by_cases hlt : k < n
  ·have d1 : decide ((k : Int) < (n : Int)) = true := by simp; omega
   obtain ⟨l0, l1⟩ := HZ.out wr HBE.out
   have hlie := LieP.nw HR.out (HNW.out wr HBE.out)
   obtain ⟨r0, r1⟩ := hlie.2 k (by rw [HN.out]; exact hlt)
   have HA : Hid (∀ (w1 : World) (x y : Int) (t : TypeId), LV (bl + 1) w1 (D k) → _) := fun w1 x y t h => iadd_one w1 (bl + 1) (D k) x y t h (by have := HL.out k; omega)
   have hbw : b < wr.heap.size := hlie.1
   have hblw : bl < wr.heap.size := World.block_lt_of_cell? wr ⟨bl, 0, none⟩ l0
   by_cases hk0 : k = 0
   ·have d2 : ((k : Int) == 0) = true := by simp [hk0]
    have HE : Hid (D (k + 1) = D k ++ [ptAt p k]) := HY.out k (Or.inl hk0)
    clear HY HX hlie hk0
    generalize ptAt p k = A at *
    obtain ⟨ax, ay⟩ := A
    simp only at r0 r1
    go_wp2
    go_quiet (fail)
    have n1 : Nw wr ((wr.alloc (.cells #[.int .i64 ax, .int .i64 ay] 34)).drewN nq) := below_drewN ((Below.refl _ _).alloc (Nat.le_refl _) _) _
    have q0 : ((wr.alloc (.cells #[.int .i64 ax, .int .i64 ay] 34)).drewN nq).cell? ⟨wr.heap.size, 0, none⟩ = some (.int .i64 ax) := by simp
    have q1 : ((wr.alloc (.cells #[.int .i64 ax, .int .i64 ay] 34)).drewN nq).cell? ⟨wr.heap.size, 1, none⟩ = some (.int .i64 ay) := by simp
    generalize (wr.alloc (.cells #[.int .i64 ax, .int .i64 ay] 34)).drewN nq = w1 at *
    have L1 : Hid (LV (bl + 1) w1 (D k)) := LV.nw HLV.out n1
    have B1 : Hid (Below (bl + 1) W w1) := Below.trans HBE.out (Below.mono n1 (Nat.le_of_lt HLV.out.lt))
    clear n1 l0 l1 r0 r1 hbw hblw
    go_wp2_with fail
    refine Calls.mono (HA.out w1 ax ay _ L1.out) ?_
    rintro e w3 ⟨rfl, l3, b3⟩
    have L3 : Hid (LV (bl + 1) w3 (D (k + 1))) := by show LV _ _ _; rw [HE.out]; exact l3
    have B3 : Hid (Below (bl + 1) W w3) := Below.trans B1.out b3
    clear l3 b3 q0 q1
    go_wp2
    go_roundw
    case rel => exact ⟨k + 1, by omega, by go_num, L3.out, B3.out⟩
    case measure => simp [intOf]; omega
   ·have d2 : ((k : Int) == 0) = false := by simp [hk0]
    obtain ⟨m, hm⟩ : ∃ m, k - 1 = m := ⟨_, rfl⟩
    have hkm : (k : Int) - 1 = (m : Int) := by omega
    have hwr : IntKind.i64.wrap ((k : Int) - 1) = (m : Int) := by rw [hkm]; exact IntWalk.i64_in _ ⟨by omega, by omega⟩
    have hmn : m < n := by omega
    obtain ⟨s0, s1⟩ := hlie.2 m (by rw [HN.out]; omega)
    have HYk := HY.out k
    have HXk := HX.out k
    rw [hm] at HYk HXk
    obtain ⟨Pm, hPm⟩ : ∃ q, ptAt p m = q := ⟨_, rfl⟩
    rw [hPm] at s0 s1 HYk HXk
    obtain ⟨px, py⟩ := Pm
    obtain ⟨A, hA⟩ : ∃ q, ptAt p k = q := ⟨_, rfl⟩
    rw [hA] at r0 r1 HYk HXk
    obtain ⟨ax, ay⟩ := A
    simp only at r0 r1 s0 s1
    clear HY HX hlie hPm hA hm
    by_cases ex : ax = px
    ·by_cases ey : ay = py
     ·have HE : Hid (D (k + 1) = D k) := HXk (fun h => h.elim (fun e => hk0 e) (fun e => e (by rw [ex, ey])))
      have e1 : (ax == px) = true := by simp [ex]
      have e2 : (ay == py) = true := by simp [ey]
      clear HYk HXk ex ey hk0
      go_wp2
      go_quiet (fail)
      have n1 : Nw wr ((wr.alloc (.cells #[.int .i64 ax, .int .i64 ay] 34)).drewN nq) := below_drewN ((Below.refl _ _).alloc (Nat.le_refl _) _) _
      generalize (wr.alloc (.cells #[.int .i64 ax, .int .i64 ay] 34)).drewN nq = w1 at *
      have L1 : Hid (LV (bl + 1) w1 (D (k + 1))) := by show LV _ _ _; rw [HE.out]; exact LV.nw HLV.out n1
      have B1 : Hid (Below (bl + 1) W w1) := Below.trans HBE.out (Below.mono n1 (Nat.le_of_lt HLV.out.lt))
      clear n1 l0 l1 r0 r1 s0 s1 hbw hblw
      go_wp2
      go_roundw
      case rel => exact ⟨k + 1, by omega, by go_num, L1.out, B1.out⟩
      case measure => simp [intOf]; omega
     ·have HE : Hid (D (k + 1) = D k ++ [(ax, ay)]) := HYk (Or.inr (fun e => ey (by injection e)))
      have e1 : (ax == px) = true := by simp [ex]
      have e2 : (ay == py) = false := by simp [ey]
      clear HYk HXk ex ey hk0
      go_wp2
      go_quiet (fail)
      have n1 : Nw wr ((wr.alloc (.cells #[.int .i64 ax, .int .i64 ay] 34)).drewN nq) := below_drewN ((Below.refl _ _).alloc (Nat.le_refl _) _) _
      have q0 : ((wr.alloc (.cells #[.int .i64 ax, .int .i64 ay] 34)).drewN nq).cell? ⟨wr.heap.size, 0, none⟩ = some (.int .i64 ax) := by simp
      have q1 : ((wr.alloc (.cells #[.int .i64 ax, .int .i64 ay] 34)).drewN nq).cell? ⟨wr.heap.size, 1, none⟩ = some (.int .i64 ay) := by simp
      generalize (wr.alloc (.cells #[.int .i64 ax, .int .i64 ay] 34)).drewN nq = w1 at *
      have L1 : Hid (LV (bl + 1) w1 (D k)) := LV.nw HLV.out n1
      have B1 : Hid (Below (bl + 1) W w1) := Below.trans HBE.out (Below.mono n1 (Nat.le_of_lt HLV.out.lt))
      clear n1 l0 l1 r0 r1 hbw hblw
      go_wp2_with fail
      refine Calls.mono (HA.out w1 ax ay _ L1.out) ?_
      rintro e w3 ⟨rfl, l3, b3⟩
      have L3 : Hid (LV (bl + 1) w3 (D (k + 1))) := by show LV _ _ _; rw [HE.out]; exact l3
      have B3 : Hid (Below (bl + 1) W w3) := Below.trans B1.out b3
      clear l3 b3 q0 q1
      go_wp2
      go_roundw
      case rel => exact ⟨k + 1, by omega, by go_num, L3.out, B3.out⟩
      case measure => simp [intOf]; omega
    ·have HE : Hid (D (k + 1) = D k ++ [(ax, ay)]) := HYk (Or.inr (fun e => ex (by injection e)))
     have e1 : (ax == px) = false := by simp [ex]
     clear HYk HXk ex hk0
     go_wp2
     go_quiet (fail)
     have n1 : Nw wr ((wr.alloc (.cells #[.int .i64 ax, .int .i64 ay] 34)).drewN nq) := below_drewN ((Below.refl _ _).alloc (Nat.le_refl _) _) _
     have q0 : ((wr.alloc (.cells #[.int .i64 ax, .int .i64 ay] 34)).drewN nq).cell? ⟨wr.heap.size, 0, none⟩ = some (.int .i64 ax) := by simp
     have q1 : ((wr.alloc (.cells #[.int .i64 ax, .int .i64 ay] 34)).drewN nq).cell? ⟨wr.heap.size, 1, none⟩ = some (.int .i64 ay) := by simp
     generalize (wr.alloc (.cells #[.int .i64 ax, .int .i64 ay] 34)).drewN nq = w1 at *
     have L1 : Hid (LV (bl + 1) w1 (D k)) := LV.nw HLV.out n1
     have B1 : Hid (Below (bl + 1) W w1) := Below.trans HBE.out (Below.mono n1 (Nat.le_of_lt HLV.out.lt))
     clear n1 l0 l1 r0 r1 hbw hblw
     go_wp2_with fail
     refine Calls.mono (HA.out w1 ax ay _ L1.out) ?_
     rintro e w3 ⟨rfl, l3, b3⟩
     have L3 : Hid (LV (bl + 1) w3 (D (k + 1))) := by show LV _ _ _; rw [HE.out]; exact l3
     have B3 : Hid (Below (bl + 1) W w3) := Below.trans B1.out b3
     clear l3 b3 q0 q1
     go_wp2
     go_roundw
     case rel => exact ⟨k + 1, by omega, by go_num, L3.out, B3.out⟩
     case measure => simp [intOf]; omega
  ·obtain rfl : k = n := by omega
   have d1 : decide ((k : Int) < (k : Int)) = false := by simp
   obtain ⟨l0, l1⟩ := HZ.out wr HBE.out
   have HRT : Hid (R = trimQ cl (D k)) := HT.out
   have hpos : 0 < (D k).length := HP.out
   have hQl : (D k).length ≤ k := HL.out k
   have NF : Hid (Nw w wr) := HNW.out wr HBE.out
   obtain ⟨va, vc, hv, hov⟩ := LV.val HLV.out
   rcases OwnQ.form hov with ⟨_, e0⟩ | ⟨g, c2, e0, hg1, hg2, hlc, hlm, hcs, hfz⟩
   ·have := congrArg List.length e0
    rw [vP_len] at this
    simp at this
    rw [this] at hpos
    simp at hpos
   rw [vP_len] at e0 hlc hcs
   injection e0 with e1 _ e3
   subst e1 e3
   have HPT : Hid (∀ i, i < (D k).length → wr.cell? ⟨g, i * 2, none⟩ = some (.int .i64 (ptAt (D k) i).1) ∧ wr.cell? ⟨g, i * 2 + 1, none⟩ = some (.int .i64 (ptAt (D k) i).2)) := fun i hi => by
    have := hcs i hi
    rw [vP_at _ i hi] at this
    exact this
   clear hcs hfz hov HZ HT HP
   generalize D k = Q at *
   obtain ⟨s, hs⟩ : ∃ s, Q.length = s + 1 := ⟨Q.length - 1, by omega⟩
   have HS : Hid (Q.length = s + 1) := hs
   rw [hs] at hv hlc HPT hQl
   obtain ⟨q0, q1⟩ := HPT.out 0 (by omega)
   obtain ⟨t0, t1⟩ := HPT.out s (by omega)
   rw [Nat.zero_mul] at q0 q1
   have hwr : IntKind.i64.wrap ((s + 1 : Nat) - 1 : Int) = (s : Int) := by rw [show ((s + 1 : Nat) - 1 : Int) = (s : Int) by omega]; exact IntWalk.i64_in _ ⟨by omega, by have := hlm; unfold maxLen at this; omega⟩
   have HRY : Hid (cl = true → ptAt Q s = ptAt Q 0 → R = Q.take s) := fun h1 h2 => by
    rw [HRT.out, trimQ, HS.out, Nat.add_sub_cancel, if_pos ⟨h1, h2⟩]
   have HRN : Hid (¬ (cl = true ∧ ptAt Q s = ptAt Q 0) → R = Q) := fun h => by
    rw [HRT.out, trimQ, HS.out, Nat.add_sub_cancel, if_neg h]
   cases cl with
   | false =>
    have HE : Hid (R = Q) := HRN.out (fun h => by cases h.1)
    clear HRY HRN
    go_wp2
    go_quiet (fail)
    go_wp2
    go_ret
    refine ⟨some ⟨g, 0, none⟩, vc, by rw [HE.out, HS.out]; rfl, ?_, Nw.trans NF.out (below_drewN (Below.refl _ _) _)⟩
    rw [HE.out]
    refine Pts.nw ?_ (below_drewN (Below.refl _ _) _)
    exact Or.inr ⟨g, 0, rfl, hg2, fun i hi => by rw [Nat.zero_add]; exact HPT.out i (by rw [HS.out] at hi; exact hi)⟩
   | true =>
    obtain ⟨A, hA⟩ : ∃ A, ptAt Q 0 = A := ⟨_, rfl⟩
    obtain ⟨B, hB⟩ : ∃ B, ptAt Q s = B := ⟨_, rfl⟩
    rw [hA] at q0 q1
    rw [hB] at t0 t1
    have HRY' : Hid (B = A → R = Q.take s) := fun h => HRY.out rfl (by rw [hA, hB, h])
    have HRN' : Hid (B ≠ A → R = Q) := fun h => HRN.out (fun h2 => h (by rw [← hA, ← hB]; exact h2.2))
    clear hA hB HRY HRN
    obtain ⟨ax, ay⟩ := A
    obtain ⟨bx, by'⟩ := B
    simp only at q0 q1 t0 t1
    by_cases ex : bx = ax
    ·by_cases ey : by' = ay
     ·have HE : Hid (R = Q.take s) := HRY'.out (by rw [ex, ey])
      have e1 : (bx == ax) = true := by simp [ex]
      have e2 : (by' == ay) = true := by simp [ey]
      clear ex ey HRY' HRN'
      go_wp2
      go_quiet (fail)
      go_wp2
      go_ret
      have hl : (Q.take s).length = s := by rw [List.length_take, HS.out]; omega
      refine ⟨some ⟨g, 0, none⟩, vc, by rw [HE.out, hl]; rfl, ?_, Nw.trans NF.out (below_drewN (Below.refl _ _) _)⟩
      rw [HE.out]
      refine Pts.nw ?_ (below_drewN (Below.refl _ _) _)
      refine Or.inr ⟨g, 0, rfl, hg2, fun i hi => ?_⟩
      rw [hl] at hi
      rw [Nat.zero_add, ptAt_take _ _ _ hi]
      exact HPT.out i (by omega)
     ·have HE : Hid (R = Q) := HRN'.out (fun e => ey (by injection e))
      have e1 : (bx == ax) = true := by simp [ex]
      have e2 : (by' == ay) = false := by simp [ey]
      clear ex ey HRY' HRN'
      go_wp2
      go_quiet (fail)
      go_wp2
      go_ret
      refine ⟨some ⟨g, 0, none⟩, vc, by rw [HE.out, HS.out]; rfl, ?_, Nw.trans NF.out (below_drewN (Below.refl _ _) _)⟩
      rw [HE.out]
      refine Pts.nw ?_ (below_drewN (Below.refl _ _) _)
      exact Or.inr ⟨g, 0, rfl, hg2, fun i hi => by rw [Nat.zero_add]; exact HPT.out i (by rw [HS.out] at hi; exact hi)⟩
    ·have HE : Hid (R = Q) := HRN'.out (fun e => ex (by injection e))
     have e1 : (bx == ax) = false := by simp [ex]
     clear ex HRY' HRN'
     go_wp2
     go_quiet (fail)
     go_wp2
     go_ret
     refine ⟨some ⟨g, 0, none⟩, vc, by rw [HE.out, HS.out]; rfl, ?_, Nw.trans NF.out (below_drewN (Below.refl _ _) _)⟩
     rw [HE.out]
     refine Pts.nw ?_ (below_drewN (Below.refl _ _) _)
     exact Or.inr ⟨g, 0, rfl, hg2, fun i hi => by rw [Nat.zero_add]; exact HPT.out i (by rw [HS.out] at hi; exact hi)⟩
structure PB (w : World) (b : Nat) (p : PD) (v : Value) : Prop where
 c0 : w.cell? ⟨b, 0, none⟩ = some (.int .i64 p.w)
 c1 : w.cell? ⟨b, 1, none⟩ = some (.int .i64 p.j)
 c2 : w.cell? ⟨b, 2, none⟩ = some (.int .i64 p.c)
 c3 : w.cell? ⟨b, 3, none⟩ = some v
 c4 : w.cell? ⟨b, 4, none⟩ = some (.int .i64 p.f)
theorem joins_of (w : World) (B : Nat) (ps : Prts) (cs : Array Value) (t : TypeId) (hps : ps.length ≤ 3) (hfl : (flatP ps).length ≤ 1000000) (hB : B ≤ w.heap.size) (hcs : ∀ i, i < ps.length → cs[i]? = some (prAt ps i).1)
  (hr : ∀ i, i < ps.length → ∃ B2, OwnLn w B2 (prAt ps i).1 (prAt ps i).2) (hi : ItsOk w B (flatP ps)) :
  Calls Tryz.prog 71 #[.slice (some ⟨w.heap.size, 0, none⟩) ps.length ps.length] (w.alloc (.cells cs t)) fun e w' => ∃ u, e = .returned u ∧ OwnLn w' B u (flatP ps) ∧ Nw w w' := by
 have n1 : Nw w (w.alloc (.cells cs t)) := (Below.refl _ _).alloc (Nat.le_refl _) _
 refine Calls.mono (ijoined (w.alloc (.cells cs t)) w.heap.size ps.length ps (by simp) hps hfl (fun i hi => ?_) (fun i hi => ?_) (fun i hi => ?_)) ?_
 ·rw [World.cell?_alloc_at _ _ _ _ rfl]; exact hcs i hi
 ·obtain ⟨B2, h⟩ := hr i hi
  exact ⟨B2, OwnQ.nw h.own n1⟩
 ·obtain ⟨B2, h⟩ := hr i hi
  exact h.its.one
 ·rintro e w' ⟨u, rfl, o, n⟩
  exact ⟨u, rfl, ItsOk.own (hi.nw n1) n o (Nat.le_trans hB (Below.size n1)), Nw.trans n1 n⟩
def fnC (c : Int) : FuncId := if c = 2 then 93 else if c = 3 then 94 else 95
theorem icapOf' (w : World) (c : Int) : Calls Tryz.prog 75 #[.int .i64 c] w fun e w' => e = .returned (.func (.func (fnC c)) #[] #[]) ∧ w' = w := by
 refine Calls.mono (icapOf w c) ?_
 rintro e w' ⟨rfl, rfl⟩
 refine ⟨?_, rfl⟩
 unfold fnC
 split
 ·rfl
 ·split <;> rfl
theorem fnC_call (c : Int) (args : Array Value) (w : World) : Sem.run Tryz.prog (callFunc (fnC c) args) w = .ok (.enter (fnC c) args) w := by
 unfold fnC
 split
 ·simp [go_sem]
 ·split
  ·simp [go_sem]
  ·simp [go_sem]
theorem cap_says (c px py sx sy ox oy h : Int) (hp : nearB (px, py) = true) (h0 : 0 ≤ h) (h1 : h ≤ 4194304) (h2 : -1099511627776 ≤ sx ∧ sx ≤ 1099511627776) (h3 : -1099511627776 ≤ sy ∧ sy ≤ 1099511627776) (h4 : -1099511627776 ≤ ox ∧ ox ≤ 1099511627776) (h5 : -1099511627776 ≤ oy ∧ oy ≤ 1099511627776) :
  LsSays (fnC c) #[tpV px py sx sy ox oy h] (capL c (px, py) (sx, sy) (ox, oy) h) := by
 obtain ⟨n1, n2⟩ := nearB_nr hp
 unfold nr at n1 n2
 simp only at n1 n2
 unfold fnC capL
 split
 ·exact itround px py sx sy ox oy h (el_near hp h0 h1)
 ·split
  ·exact itsquare px py sx sy ox oy h (by unfold wid; omega) (by unfold wid; omega) (by unfold wid; omega) (by unfold wid; omega) (by unfold wid; omega) (by unfold wid; omega) (by unfold wid; omega) (by unfold wid; omega) (by unfold wid; omega) (by unfold wid; omega)
  ·exact itbutt px py sx sy ox oy h
def fvJ (j : Int) : Value := if j = 2 then .func (.func 91) #[] #[] else .func (.func 92) #[] #[]
theorem icorners (w : World) (a : Option Addr) (c : Nat) (q : List Pnt) (cl : Bool) (h j : Int) (g : GQ q cl h) (hr : Sgs w a (segsK q h (segN cl q.length))) :
  Calls Tryz.prog 73 #[.slice a (segN cl q.length) c, .bool cl, .int .i64 h, fvJ j] w fun e w' => ∃ v, e = .returned v ∧ LsOk w' w.heap.size v (cornsK (joinJ j h) (segsK q h (segN cl q.length)) cl (segN cl q.length)) ∧ Nw w w' := by
 have hl := segsK_len q h (segN cl q.length)
 have hm := g.many
 have hs := segN_le cl q.length
 have hsg : ∀ i, i < segN cl q.length → wsg (sgAt (segsK q h (segN cl q.length)) i) ∧ nearB (sgAt (segsK q h (segN cl q.length)) i).f = true := fun i hi => by
  rw [segsK_at _ _ _ _ hi]
  exact ⟨g.wsg hi, g.near i (by omega)⟩
 unfold fvJ
 by_cases hj : j = 2
 ·rw [if_pos hj]
  have := icornersR w a c (segsK q h (segN cl q.length)) cl h (joinJ j h) (by omega) hr (fun i k hi hk => by
   rw [hl] at hi hk
   unfold joinJ
   rw [if_pos hj]
   exact icround _ _ _ _ _ _ _ _ _ _ _ _ h (el_near (hsg k hk).2 g.h0 g.h1))
  rw [hl] at this
  exact this
 ·rw [if_neg hj]
  have := icornersB w a c (segsK q h (segN cl q.length)) cl h (joinJ j h) (by omega) hr (fun i k hi hk => by
   rw [hl] at hi hk
   unfold joinJ
   rw [if_neg hj]
   obtain ⟨⟨⟨a1, a2⟩, ⟨a3, a4⟩, a5, a6⟩, _⟩ := hsg i hi
   obtain ⟨⟨⟨b1, b2⟩, ⟨b3, b4⟩, b5, b6⟩, _⟩ := hsg k hk
   exact ibevel _ _ _ _ _ _ _ _ _ _ _ _ h a1 a2 a3 a4 b1 b2 b3 b4 a5 a6 b5 b6)
  rw [hl] at this
  exact this
set_option maxRecDepth 100000 in
set_option maxHeartbeats 8000000 in
theorem istroke (w : World) (a : Option Addr) (c : Nat) (l : LD) (p : PD) (dv : Value) (hdv : ∃ x y z, dv = .slice x y z) (hp : 0 < l.pts.length) (hp2 : l.pts.length ≤ 600) (hn : ∀ x, x ∈ l.pts → nearB x = true) (hw0 : 0 ≤ p.w) (hw1 : p.w ≤ 4194304) (hr : Pts w a l.pts) :
  Calls Tryz.prog 43 #[.agg #[.slice a l.pts.length c, .bool l.closed], penV p dv] w fun e w' => ∃ v, e = .returned v ∧ LsOk w' w.heap.size v (strkL l (p.w / 2) p.j p.c) ∧ Nw w w' := by
 obtain ⟨pts, cl⟩ := l
 simp only at hp hp2 hn hr ⊢
 obtain ⟨dx, dy, dz, rfl⟩ := hdv
 obtain ⟨pw, pj, pc, pf⟩ := p
 simp only [penV] at hw0 hw1 ⊢
 obtain ⟨W, hW⟩ : ∃ W, (w.alloc (.cells #[.slice a pts.length c, .bool cl] 25)).alloc (.cells #[.int .i64 pw, .int .i64 pj, .int .i64 pc, .slice dx dy dz, .int .i64 pf] 36) = W := ⟨_, rfl⟩
 have z0 : W.cell? ⟨w.heap.size, 0, none⟩ = some (.slice a pts.length c) := by rw [← hW]; simp
 have z1 : W.cell? ⟨w.heap.size, 1, none⟩ = some (.bool cl) := by rw [← hW]; simp
 have y0 : W.cell? ⟨w.heap.size + 1, 0, none⟩ = some (.int .i64 pw) := by rw [← hW]; simp
 have y1 : W.cell? ⟨w.heap.size + 1, 1, none⟩ = some (.int .i64 pj) := by rw [← hW]; simp
 have y2 : W.cell? ⟨w.heap.size + 1, 2, none⟩ = some (.int .i64 pc) := by rw [← hW]; simp
 have NW : Hid (Nw w W) := by show Nw _ _; rw [← hW]; exact Nw.trans ((Below.refl _ _).alloc (Nat.le_refl _) _) ((Below.refl _ _).alloc (Nat.le_refl _) _)
 have HW : Hid (_ = W) := hW
 have HC : Hid (∀ w', Nw W w' → w'.cell? ⟨w.heap.size, 1, none⟩ = some (.bool cl) ∧ w'.cell? ⟨w.heap.size + 1, 0, none⟩ = some (.int .i64 pw) ∧ w'.cell? ⟨w.heap.size + 1, 1, none⟩ = some (.int .i64 pj) ∧ w'.cell? ⟨w.heap.size + 1, 2, none⟩ = some (.int .i64 pc)) := fun w' k => ⟨nw_at k z1, nw_at k y0, nw_at k y1, nw_at k y2⟩
 have H1 : Hid _ := iwr W a c pts cl hp hp2 (Pts.nw hr NW.out)
 clear hr hW
 obtain ⟨h, hh⟩ : ∃ h, pw / 2 = h := ⟨_, rfl⟩
 have hh0 : 0 ≤ h := by rw [← hh]; omega
 have hh1 : h ≤ 4194304 := by rw [← hh]; omega
 have hq : (ddP pts cl).length < 2 ∨ GQ (ddP pts cl) cl h := by
  by_cases e : (ddP pts cl).length < 2
  ·exact Or.inl e
  ·exact Or.inr (GQ.of (l := ⟨pts, cl⟩) (by show 2 ≤ (ddP pts cl).length; omega) hp2 hn hh0 hh1)
 have hst : strkL ⟨pts, cl⟩ h pj pc = if (ddP pts cl).length < 2 then [] else strkQ (ddP pts cl) cl h pj pc := rfl
 have hh2 : pw.tdiv 2 = h := by rw [Int.tdiv_eq_ediv_of_nonneg hw0]; exact hh
 rw [hh, hst]
 clear hst
 generalize ddP pts cl = q at *
 clear hn
 generalize pts.length = np at *
 rcases hq with hq | hq
 ·rw [if_pos hq]
  generalize hqn : q.length = qn at *
  have d1 : decide ((qn : Int) < 2) = true := by simp; omega
  go_enter Tryz.func43, Tryz.ntmps43
  go_wp2_with fail
  rw [HW.out]
  refine Calls.mono H1.out ?_
  rintro e w1 ⟨a1, c1, rfl, p1, n1⟩
  have N1 : Hid (Nw w w1) := Nw.trans NW.out n1
  clear n1 p1
  go_wp2
  go_ret
  exact ⟨_, rfl, LsOk.of (OwnLn.nil _ _) rfl, N1.out⟩
 ·have hnl : ¬ q.length < 2 := by have := hq.two; omega
  rw [if_neg hnl]
  have HQ : Hid (GQ q cl h) := hq
  have HL : Hid (∀ (w' : World) (a : Option Addr) (c : Nat), Pts w' a q → _) := fun w' a c hr => isegs w' a c q cl h hq.two (by have := hq.many; omega) hr
  have HSQ : Hid (strkQ q cl h pj pc = (segsK q h (segN cl q.length)).map bandL ++ cornsK (joinJ pj h) (segsK q h (segN cl q.length)) cl (segN cl q.length) ++ (if cl then [] else capsL pc h (segsK q h (segN cl q.length)))) := rfl
  have hsl := segsK_len q h (segN cl q.length)
  have HBN : Hid (∀ (w' : World) (a : Option Addr) (c : Nat), Sgs w' a (segsK q h (segN cl q.length)) → _) := fun w' a c hr => ibands w' a c (segsK q h (segN cl q.length)) (by rw [hsl]; have := segN_le cl q.length; have := hq.many; omega) (fun i hi => by rw [hsl] at hi; rw [segsK_at _ _ _ _ hi]; exact hq.wsg hi) hr
  have HCN : Hid (∀ (w' : World) (a : Option Addr) (c : Nat), Sgs w' a (segsK q h (segN cl q.length)) → _) := fun w' a c hr => icorners w' a c q cl h pj hq hr
  rw [hsl] at HBN
  obtain ⟨s, hs⟩ : ∃ s, segN cl q.length = s := ⟨_, rfl⟩
  have hs0 : 0 < s := by rw [← hs]; exact segN_pos hq.two
  have hs6 : s ≤ 600 := by rw [← hs]; exact Nat.le_trans (segN_le _ _) hq.many
  have HSN : Hid (segN cl q.length = s) := hs
  rw [hs] at HL HSQ HBN HCN hsl
  obtain ⟨SG, hSG⟩ : ∃ SG, segsK q h s = SG := ⟨_, rfl⟩
  have HSG : Hid (segsK q h s = SG) := hSG
  rw [hSG] at HL HSQ HBN HCN hsl
  obtain ⟨BN, hBN⟩ : ∃ BN, SG.map bandL = BN := ⟨_, rfl⟩
  have HBL : Hid (BN.length = s) := by show _ = _; rw [← hBN, List.length_map, hsl]
  rw [hBN] at HSQ HBN
  obtain ⟨CN, hCN⟩ : ∃ CN, cornsK (joinJ pj h) SG cl s = CN := ⟨_, rfl⟩
  have HCL : Hid (CN.length ≤ s) := by show _ ≤ _; rw [← hCN]; exact cornsK_len _ _ _ _
  rw [hCN] at HSQ HCN
  clear hBN hCN hSG hs
  rw [HSQ.out]
  clear HSQ
  have hq2 := hq.two
  have HQL : Hid (q.length = q.length) := rfl
  clear hq hnl
  generalize hqn : q.length = qn at *
  have HQN : Hid (q.length = qn) := hqn
  clear hqn
  have d1 : decide ((qn : Int) < 2) = false := by simp; omega
  go_enter Tryz.func43, Tryz.ntmps43
  go_wp2_with fail
  rw [HW.out]
  refine Calls.mono H1.out ?_
  rintro e w1 ⟨a1, c1, rfl, p1, n1⟩
  have N1 : Hid (Nw W w1) := n1
  obtain ⟨x1, x2, x3, x4⟩ := HC.out w1 n1
  have HLL : Hid _ := HL.out w1 a1 c1 p1
  clear n1 p1 z0 z1 y0 y1 y2 H1 HL
  go_wp2_with fail
  refine Calls.mono HLL.out ?_
  rintro e w2 ⟨v2, rfl, o2, n2⟩
  obtain ⟨sa, sc, hv, hsg⟩ := OwnG.sgs o2
  rw [hsl] at hv
  subst hv
  have N2 : Hid (Nw W w2) := Nw.trans N1.out n2
  obtain ⟨u1, u2, u3, u4⟩ := HC.out w2 N2.out
  have SG2 : Hid (Sgs w2 sa SG) := hsg
  clear n2 o2 hsg x1 x2 x3 x4 HLL
  have D2 : Hid (Nw w2 w2.drew) := (Below.refl _ _).drew
  have v1 := nw_at D2.out u1
  have v3 := nw_at D2.out u3
  have SGd : Hid (Sgs w2.drew sa SG) := Sgs.nw SG2.out D2.out
  have HBL2 := HBL.out
  have HCL2 := HCL.out
  have F1 : Hid (Calls Tryz.prog 72 #[.slice sa s sc] w2.drew fun e w' => ∃ v, e = .returned v ∧ ∃ it, OwnLn w' w2.heap.size v it ∧ it.map (·.2) = BN ∧ Nw w2.drew w') := by
   refine Calls.mono (HBN.out w2.drew sa sc SGd.out) ?_
   rintro e w' ⟨v, rfl, ⟨it, o, e⟩, n⟩
   exact ⟨v, rfl, it, o, e, n⟩
  have F2 : Hid (∀ w' v, (∃ it, OwnLn w' w2.heap.size v it ∧ it.map (·.2) = BN ∧ Nw w2.drew w') → Calls Tryz.prog 73 #[.slice sa s sc, .bool cl, .int .i64 h, fvJ pj] w' fun e w'' => ∃ v', e = .returned v' ∧ ∃ it1 it2, OwnLn w'' w2.heap.size v it1 ∧ OwnLn w'' w2.heap.size v' it2 ∧ ItsOk w'' w2.heap.size (it1 ++ it2) ∧ it1.map (·.2) = BN ∧ it2.map (·.2) = CN ∧ Nw w2.drew w'') := by
   rintro w' v ⟨it1, o1, e1, n1⟩
   refine Calls.mono (HCN.out w' sa sc (Sgs.nw SGd.out n1)) ?_
   rintro e w'' ⟨v', rfl, ⟨it2, o2, e2⟩, n2⟩
   have hs2 := Below.size n1
   exact ⟨v', rfl, it1, it2, OwnLn.nw o1 n2, OwnLn.base o2 hs2, ItsOk.app o1.its n2 o2.its hs2, e1, e2, Nw.trans n1 n2⟩
  have F3 : Hid (∀ w' v v', (∃ it1 it2, OwnLn w' w2.heap.size v it1 ∧ OwnLn w' w2.heap.size v' it2 ∧ ItsOk w' w2.heap.size (it1 ++ it2) ∧ it1.map (·.2) = BN ∧ it2.map (·.2) = CN ∧ Nw w2.drew w') → Calls Tryz.prog 71 #[.slice (some ⟨w'.heap.size, 0, none⟩) 2 2] (w'.alloc (.cells #[v, v'] 29)) fun e w'' => ∃ u, e = .returned u ∧ LsOk w'' w2.heap.size u (BN ++ CN) ∧ Nw w2.drew w'') := by
   rintro w' v v' ⟨it1, it2, o1, o2, oi, e1, e2, n1⟩
   have l1 : it1.length = s := by have := congrArg List.length e1; rw [List.length_map] at this; omega
   have l2 : it2.length ≤ s := by have := congrArg List.length e2; rw [List.length_map] at this; omega
   have ef : flatP [(v, it1), (v', it2)] = it1 ++ it2 := by simp [flatP]
   refine Calls.mono (joins_of w' w2.heap.size [(v, it1), (v', it2)] #[v, v'] 29 (by simp) (by rw [ef, List.length_append]; omega) (by have h9 := Below.size n1; exact h9) (fun i hi => ?_) (fun i hi => ?_) (by rw [ef]; exact oi)) ?_
   ·rcases (show i = 0 ∨ i = 1 by simp at hi; omega) with rfl | rfl <;> rfl
   ·rcases (show i = 0 ∨ i = 1 by simp at hi; omega) with rfl | rfl
    ·exact ⟨_, o1⟩
    ·exact ⟨_, o2⟩
   ·rintro e w'' ⟨u, rfl, o, n⟩
    rw [ef] at o
    exact ⟨u, rfl, LsOk.of o (by rw [List.map_append, e1, e2]), Nw.trans n1 n⟩
  have SGL : Hid _ := SG2
  clear HBN HCN SG2 SGd
  go_wp2_with fail
  refine reg_change (ops' := opsOf 6 Tryz.f43) (by kernel_rfl) ?_
  refine SO6.run ⟨w.heap.size, w.heap.size + 1, sa, s, sc, cl, h, pj, fvJ pj, fun w' v => ∃ it, OwnLn w' w2.heap.size v it ∧ it.map (·.2) = BN ∧ Nw w2.drew w', fun w' v v' => ∃ it1 it2, OwnLn w' w2.heap.size v it1 ∧ OwnLn w' w2.heap.size v' it2 ∧ ItsOk w' w2.heap.size (it1 ++ it2) ∧ it1.map (·.2) = BN ∧ it2.map (·.2) = CN ∧ Nw w2.drew w', fun w' u => LsOk w' w2.heap.size u (BN ++ CN) ∧ Nw w2.drew w', w2.drew, _⟩
   ⟨v1, v3, F1.out, ?n1, fun w => ijoinOf w pj, F2.out, ?n2, F3.out, rfl, rfl, rfl, rfl, rfl⟩ w2 rfl ?_
  case n1 =>
   rintro w' v ⟨it, o, _, n⟩
   exact ⟨n, OwnQ.slice o.own⟩
  case n2 =>
   rintro w' v v' ⟨it1, it2, o1, o2, _, _, _, n⟩
   exact ⟨n, OwnQ.slice o1.own, OwnQ.slice o2.own⟩
  rintro γ w5 ⟨o5, n5⟩
  replace n5 : Nw w2 w5 := Nw.trans D2.out n5
  have N5 : Hid (Nw W w5) := Nw.trans N2.out n5
  obtain ⟨x1, x2, x3, x4⟩ := HC.out w5 N5.out
  obtain ⟨it5, o5, e5⟩ := o5
  obtain ⟨ka, kn, kc, hk5⟩ := OwnQ.slice o5.own
  simp only [hk5, Act.put, List.setIfInBounds_toArray, List.set_cons_zero, List.set_cons_succ]
  rw [hk5] at o5
  generalize γ 0 = g0 at *
  generalize γ 1 = g1 at *
  generalize γ 2 = g2 at *
  generalize γ 3 = g3 at *
  generalize γ 4 = g4 at *
  have O5 : Hid (OwnLn w5 w2.heap.size (.slice ka kn kc) it5) := o5
  have E5 : Hid (it5.map (·.2) = BN ++ CN) := e5
  have NF5 : Hid (Nw w w5) := Nw.trans NW.out N5.out
  have HB2 : Hid (w.heap.size ≤ w2.heap.size) := Below.size (Nw.trans NW.out N2.out)
  have N25 : Hid (Nw w2 w5) := n5
  clear o5 e5 n5 u1 u2 u3 u4 v1 v3 F1 F2 F3 hk5
  cases cl with
  | true =>
   go_wp2
   go_ret
   exact ⟨_, rfl, LsOk.of (OwnLn.base O5.out HB2.out) E5.out, NF5.out⟩
  | false =>
   obtain ⟨m, rfl⟩ : ∃ m, s = m + 1 := ⟨s - 1, by omega⟩
   have hsn := HSN.out
   have hsg0 : sgAt SG 0 = segP q h 0 := by rw [← HSG.out]; exact segsK_at _ _ _ _ hs0
   have hsgm : sgAt SG m = segP q h m := by rw [← HSG.out]; exact segsK_at _ _ _ _ (Nat.lt_succ_self m)
   have hq0 : 0 < segN false q.length := by rw [HQN.out, hsn]; omega
   have hqm : m < segN false q.length := by rw [HQN.out, hsn]; omega
   have HWR : Hid (IntKind.i64.wrap (m : Int) = (m : Int) ∧ ¬ ((m : Int) + 1 ≤ (m : Int))) := ⟨IntWalk.i64_in _ ⟨by omega, by omega⟩, by omega⟩
   rw [HQ.out.seg hq0] at hsg0
   rw [HQ.out.seg hqm] at hsgm
   have hcaps : capsL pc h SG = capL pc (sgAt SG 0).f (sgAt SG 0).s (-(sgAt SG 0).s.2, (sgAt SG 0).s.1) h ++ capL pc (sgAt SG m).t (sgAt SG m).s ((sgAt SG m).s.2, -(sgAt SG m).s.1) h := by
    unfold capsL
    rw [hsl, Nat.add_sub_cancel]
   have nf : nearB (sgAt SG 0).f = true := by rw [hsg0]; exact HQ.out.near 0 (Nat.lt_of_lt_of_le hq0 (segN_le _ _))
   have nl : nearB (sgAt SG m).t = true := by rw [hsgm]; exact HQ.out.nx m
   have bf := side_bd (ptAt q 0) (nxtP q 0) h
   have bl := side_bd (ptAt q m) (nxtP q m) h
   have ef : (sgAt SG 0).s = sideP (ptAt q 0) (nxtP q 0) h := by rw [hsg0]
   have el : (sgAt SG m).s = sideP (ptAt q m) (nxtP q m) h := by rw [hsgm]
   rw [← ef] at bf
   rw [← el] at bl
   clear ef el hsg0 hsgm
   rcases (Sgs.nw SGL.out N25.out) with h0 | ⟨b, hb, hc⟩
   ·rw [h0] at hsl; simp at hsl
   subst hb
   have hc0 := hc 0 (by rw [hsl]; omega)
   have hcm := hc m (by rw [hsl]; omega)
   have HCAP : Hid _ := hcaps
   clear hc hcaps HSN HSG
   generalize sgAt SG 0 = F at *
   generalize sgAt SG m = L at *
   obtain ⟨⟨f0, f1⟩, ⟨f2, f3⟩, ⟨f4, f5⟩⟩ := F
   obtain ⟨⟨l0, l1⟩, ⟨l2, l3⟩, ⟨l4, l5⟩⟩ := L
   simp only at bf bl nf nl HCAP
   have D5 : Hid (Nw w5 w5.drew) := (Below.refl _ _).drew
   have q0 := nw_at D5.out (hc0 0 _ rfl)
   have q1 := nw_at D5.out (hc0 1 _ rfl)
   have q2 := nw_at D5.out (hc0 2 _ rfl)
   have q3 := nw_at D5.out (hc0 3 _ rfl)
   have q4 := nw_at D5.out (hc0 4 _ rfl)
   have q5 := nw_at D5.out (hc0 5 _ rfl)
   have r0 := nw_at D5.out (hcm 0 _ rfl)
   have r1 := nw_at D5.out (hcm 1 _ rfl)
   have r2 := nw_at D5.out (hcm 2 _ rfl)
   have r3 := nw_at D5.out (hcm 3 _ rfl)
   have r4 := nw_at D5.out (hcm 4 _ rfl)
   have r5 := nw_at D5.out (hcm 5 _ rfl)
   simp only [Nat.zero_mul, Nat.zero_add, Nat.add_zero] at q0 q1 q2 q3 q4 q5 r0 r1 r2 r3 r4 r5
   have Q10 : Hid _ := And.intro q0 (And.intro q1 (And.intro q2 (And.intro q3 (And.intro q4 q5))))
   have R10 : Hid _ := And.intro r0 (And.intro r1 (And.intro r2 (And.intro r3 (And.intro r4 r5))))
   clear hc0 hcm q0 q1 q2 q3 q4 q5 r0 r1 r2 r3 r4 r5
   have S1 : Hid _ := cap_says pc f0 f1 f4 f5 (-f5) f4 h nf hh0 hh1 bf.1 bf.2 ⟨by omega, by omega⟩ bf.1
   have S2 : Hid _ := cap_says pc l2 l3 l4 l5 l5 (-l4) h nl hh0 hh1 bl.1 bl.2 bl.2 ⟨by omega, by omega⟩
   have CL1 : Hid ((capL pc (f0, f1) (f4, f5) (-f5, f4) h).length ≤ 1) := capL_len _ _ _ _ _
   have CL2 : Hid ((capL pc (l2, l3) (l4, l5) (l5, -l4) h).length ≤ 1) := capL_len _ _ _ _ _
   generalize capL pc (f0, f1) (f4, f5) (-f5, f4) h = C1 at *
   generalize capL pc (l2, l3) (l4, l5) (l5, -l4) h = C2 at *
   have wf4 : wid f4 := by unfold wid; omega
   have wf5 : wid f5 := by unfold wid; omega
   have wl4 : wid l4 := by unfold wid; omega
   have HWD : Hid _ := And.intro wf4 (And.intro wf5 wl4)
   have HCP : Hid (∀ w, _) := fun w => icapOf' w pc
   have HFX : Hid (∀ args w, _) := fun args w => fnC_call pc args w
   generalize fnC pc = K at *
   clear wf4 wf5 wl4 bf bl nf nl
   go_wp2_with fail
   refine Calls.mono (HCP.out _) ?_
   rintro e w6 ⟨rfl, rfl⟩
   go_wp2_with fail
   refine reg_change (ops' := opsOf 10 Tryz.f43) (by kernel_rfl) ?_
   refine SO10.run ⟨f0, f1, f2, f3, f4, f5, l0, l1, l2, l3, l4, l5, b, m, sc, w6.drew, _⟩ ⟨Q10.out.1, Q10.out.2.1, Q10.out.2.2.1, Q10.out.2.2.2.1, Q10.out.2.2.2.2.1, Q10.out.2.2.2.2.2, R10.out.1, R10.out.2.1, R10.out.2.2.1, R10.out.2.2.2.1, R10.out.2.2.2.2.1, R10.out.2.2.2.2.2, HWR.out.1, Int.not_le.2 (Int.lt_succ (m : Int)), rfl, rfl⟩ w6 (Kp.refl _) ?_
   intro w7 ga gb k7 _ _ _ a0 a1 a2 a3 a4 a5 b0 b1 b2 b3 b4 b5
   have N7 : Hid (Nw w6 w7) := Kp.nw (undrew k7)
   simp only [Act.put, List.setIfInBounds_toArray, List.set_cons_zero, List.set_cons_succ]
   have D7 : Hid (Nw w7 w7.drew) := (Below.refl _ _).drew
   have A7 : Hid _ := And.intro (nw_at D7.out a0) (And.intro (nw_at D7.out a1) (And.intro (nw_at D7.out a2) (And.intro (nw_at D7.out a3) (And.intro (nw_at D7.out a4) (nw_at D7.out a5)))))
   have B7 : Hid _ := And.intro (nw_at D7.out b0) (And.intro (nw_at D7.out b1) (And.intro (nw_at D7.out b2) (And.intro (nw_at D7.out b3) (And.intro (nw_at D7.out b4) (nw_at D7.out b5)))))
   clear k7 a0 a1 a2 a3 a4 a5 b0 b1 b2 b3 b4 b5 x1 x2 x3 x4 Q10 R10
   have O7 : Hid (OwnLn w7.drew w2.heap.size (.slice ka kn kc) it5) := OwnLn.nw O5.out (Nw.trans N7.out D7.out)
   have s27 : Hid (w2.heap.size ≤ w7.heap.size) := Below.size (Nw.trans N25.out N7.out)
   have L5 : Hid (it5.length ≤ 1300) := by
    show _ ≤ _
    have := congrArg List.length E5.out
    rw [List.length_map, List.length_append] at this
    have h1 := HBL.out
    have h2 := HCL.out
    omega
   have F1 : Hid (∀ w', Kp w7.drew w' → Calls Tryz.prog K #[tpV f0 f1 f4 f5 (-f5) f4 h] w' fun e w'' => ∃ v, e = .returned v ∧ ∃ it1, OwnLn w'' w7.heap.size v it1 ∧ it1.map (·.2) = C1 ∧ Nw w7.drew w'') := by
    intro w' k
    refine Calls.mono (S1.out w') ?_
    rintro e w'' ⟨v, rfl, ⟨it1, o, e⟩, n⟩
    exact ⟨v, rfl, it1, OwnLn.base o (by have h9 := Kp.size k; exact h9), e, Nw.trans (Kp.nw k) n⟩
   have F2 : Hid (∀ w' v, (∃ it1, OwnLn w' w7.heap.size v it1 ∧ it1.map (·.2) = C1 ∧ Nw w7.drew w') → Calls Tryz.prog K #[tpV l2 l3 l4 l5 l5 (-l4) h] w' fun e w'' => ∃ v', e = .returned v' ∧ ∃ it1 it2, OwnLn w'' w2.heap.size (.slice ka kn kc) it5 ∧ OwnLn w'' w7.heap.size v it1 ∧ OwnLn w'' w7.heap.size v' it2 ∧ ItsOk w'' w2.heap.size (it5 ++ it1 ++ it2) ∧ it1.map (·.2) = C1 ∧ it2.map (·.2) = C2 ∧ Nw w7.drew w'') := by
    rintro w' v ⟨it1, o1, e1, n1⟩
    refine Calls.mono (S2.out w') ?_
    rintro e w'' ⟨v', rfl, ⟨it2, o2, e2⟩, n2⟩
    have hs1 : w7.heap.size ≤ w'.heap.size := by have h9 := Below.size n1; exact h9
    have i1 : ItsOk w' w2.heap.size (it5 ++ it1) := ItsOk.app O7.out.its n1 o1.its s27.out
    exact ⟨v', rfl, it1, it2, OwnLn.nw O7.out (Nw.trans n1 n2), OwnLn.nw o1 n2, OwnLn.base o2 hs1, ItsOk.app i1 n2 o2.its (Nat.le_trans s27.out hs1), e1, e2, Nw.trans n1 n2⟩
   have F3 : Hid (∀ w' v v', (∃ it1 it2, OwnLn w' w2.heap.size (.slice ka kn kc) it5 ∧ OwnLn w' w7.heap.size v it1 ∧ OwnLn w' w7.heap.size v' it2 ∧ ItsOk w' w2.heap.size (it5 ++ it1 ++ it2) ∧ it1.map (·.2) = C1 ∧ it2.map (·.2) = C2 ∧ Nw w7.drew w') → Calls Tryz.prog 71 #[.slice (some ⟨w'.heap.size, 0, none⟩) 3 3] (w'.alloc (.cells #[.slice ka kn kc, v, v'] 29)) fun e w'' => ∃ u, e = .returned u ∧ LsOk w'' w2.heap.size u (BN ++ CN ++ (C1 ++ C2)) ∧ Nw w7.drew w'') := by
    rintro w' v v' ⟨it1, it2, o0, o1, o2, oi, e1, e2, n1⟩
    have l1 : it1.length ≤ 1 := by have := congrArg List.length e1; rw [List.length_map] at this; have := CL1.out; omega
    have l2 : it2.length ≤ 1 := by have := congrArg List.length e2; rw [List.length_map] at this; have := CL2.out; omega
    have l5 := L5.out
    have ef : flatP [(.slice ka kn kc, it5), (v, it1), (v', it2)] = it5 ++ it1 ++ it2 := by simp [flatP]
    refine Calls.mono (joins_of w' w2.heap.size [(.slice ka kn kc, it5), (v, it1), (v', it2)] #[.slice ka kn kc, v, v'] 29 (by simp) (by rw [ef, List.length_append, List.length_append]; omega) (Nat.le_trans s27.out (by have h9 := Below.size n1; exact h9)) (fun i hi => ?_) (fun i hi => ?_) (by rw [ef]; exact oi)) ?_
    ·rcases (show i = 0 ∨ i = 1 ∨ i = 2 by simp at hi; omega) with rfl | rfl | rfl <;> rfl
    ·rcases (show i = 0 ∨ i = 1 ∨ i = 2 by simp at hi; omega) with rfl | rfl | rfl
     ·exact ⟨_, o0⟩
     ·exact ⟨_, o1⟩
     ·exact ⟨_, o2⟩
    ·rintro e w'' ⟨u, rfl, o, n⟩
     rw [ef] at o
     exact ⟨u, rfl, LsOk.of o (by rw [List.map_append, List.map_append, E5.out, e1, e2, List.append_assoc]), Nw.trans n1 n⟩
   go_wp2_with fail
   refine reg_change (ops' := opsOf 11 Tryz.f43) (by kernel_rfl) ?_
   refine SO11.run ⟨f0, f1, f2, f3, f4, f5, l0, l1, l2, l3, l4, l5, ga, gb, h, K, .slice ka kn kc, fun w' v => ∃ it1, OwnLn w' w7.heap.size v it1 ∧ it1.map (·.2) = C1 ∧ Nw w7.drew w', fun w' v v' => ∃ it1 it2, OwnLn w' w2.heap.size (.slice ka kn kc) it5 ∧ OwnLn w' w7.heap.size v it1 ∧ OwnLn w' w7.heap.size v' it2 ∧ ItsOk w' w2.heap.size (it5 ++ it1 ++ it2) ∧ it1.map (·.2) = C1 ∧ it2.map (·.2) = C2 ∧ Nw w7.drew w', fun w' u => LsOk w' w2.heap.size u (BN ++ CN ++ (C1 ++ C2)) ∧ Nw w7.drew w', w7.drew, _⟩
    ⟨A7.out.1, A7.out.2.1, A7.out.2.2.1, A7.out.2.2.2.1, A7.out.2.2.2.2.1, A7.out.2.2.2.2.2, B7.out.1, B7.out.2.1, B7.out.2.2.1, B7.out.2.2.2.1, B7.out.2.2.2.2.1, B7.out.2.2.2.2.2, HWD.out.1, HWD.out.2.1, HWD.out.2.2, HFX.out, ⟨_, _, _, rfl⟩, F1.out, ?n1, ?k1, F2.out, ?n2, F3.out, rfl, rfl, rfl, rfl, rfl, rfl⟩ w7 (Kp.refl _) ?_
   case n1 =>
    rintro w' v ⟨it, o, _, n⟩
    exact ⟨n, OwnQ.slice o.own⟩
   case k1 =>
    rintro w' w'' v ⟨it, o, e, n⟩ k
    exact ⟨it, OwnLn.nw o (Kp.nw k), e, Nw.trans n (Kp.nw k)⟩
   case n2 =>
    rintro w' v v' ⟨it1, it2, _, o1, o2, _⟩
    exact ⟨OwnQ.slice o1.own, OwnQ.slice o2.own⟩
   rintro γ2 w9 ⟨o9, n9⟩
   obtain ⟨it9, o9, e9⟩ := o9
   obtain ⟨ja, jn, jc, hj9⟩ := OwnQ.slice o9.own
   simp only [hj9, Act.put, List.setIfInBounds_toArray, List.set_cons_zero, List.set_cons_succ]
   rw [hj9] at o9
   have O9 : Hid (LsOk w9 w.heap.size (.slice ja jn jc) (BN ++ CN ++ (C1 ++ C2))) := LsOk.of (OwnLn.base o9 HB2.out) e9
   have N9 : Hid (Nw w w9) := Nw.trans NF5.out (Nw.trans N7.out (Nw.trans D7.out n9))
   clear o9 e9 n9 hj9 F1 F2 F3
   generalize γ2 0 = y0 at *
   generalize γ2 1 = y1 at *
   generalize γ2 2 = y2 at *
   generalize γ2 3 = y3 at *
   generalize γ2 4 = y4 at *
   generalize γ2 5 = y5 at *
   generalize γ2 6 = y6 at *
   generalize γ2 7 = y7 at *
   generalize γ2 8 = y8 at *
   go_wp2
   go_ret
   rw [HCAP.out]
   refine ⟨_, rfl, ?_, N9.out⟩
   have o := O9.out
   rw [List.append_assoc] at o
   exact o
end Go.Proofs.YtnkeljmecbohkaaGreat
