/-
  What DrawStrokeLines answers: a few lines of few points and 
-/
import Derived.Test.YtnkeljmecbohkaaGreatJAW
import Derived.Test.YtnkeljmecbohkaaGreatJAQ
import Derived.Test.YtnkeljmecbohkaaGreatJAC
import Derived.Deep.QuietTactic
import Derived.BigQuiet
import Derived.Test.YtnkeljmecbohkaaGreatJAU
import Derived.Test.YtnkeljmecbohkaaGreatJAT
import Derived.Deep.DeepCutAuto
import Derived.Test.YtnkeljmecbohkaaGreatJAA
namespace Go.Proofs.YtnkeljmecbohkaaGreat
open Go.ChangeShapes Go.WideShapes Go.ChangeAt Go.RowKit
set_option linter.unusedVariables false
theorem Gr.split {B : Nat} {w w1 : World} (h : Gr B w w1) (hB : B < w.heap.size) : ∃ wS, Gr B w wS ∧ Nw wS w1 ∧ wS.heap.size = w.heap.size := by
 have h' : w.grownBy w1 (some B) := h
 have hs := h.size
 refine ⟨{ w with heap := w.heap.setIfInBounds B (w1.heap[B]'(by omega)) }, ⟨rfl, rfl, rfl, by simp, fun i hi hne => ?_⟩, ⟨h'.os, h'.tape, h'.output, by simpa using hs, fun i hi => ?_⟩, by simp⟩
 ·have hb : B ≠ i := fun e => hne (by rw [e])
  show (w.heap.setIfInBounds B _)[i]? = w.heap[i]?
  rw [Array.getElem?_setIfInBounds_ne hb]
 ·have hi' : i < w.heap.size := by simpa using hi
  show w1.heap[i]? = (w.heap.setIfInBounds B _)[i]?
  by_cases hb : B = i
  ·subst hb
   rw [Array.getElem?_setIfInBounds_self_of_lt hB, Array.getElem?_eq_getElem (by omega)]
  ·rw [Array.getElem?_setIfInBounds_ne hb]
   exact h'.block i hi' (fun e => hb (Option.some.inj e).symm)
theorem Cur.back {w w1 : World} {B : Nat} {ca : Option Addr} {len cap n : Nat} (h : Cur w1 B ca len cap n) (k : Nw w w1) (hBB : B < w.heap.size) : Cur w B ca len cap n := by
 obtain ⟨k0, sd, q1, q2, q3, c0, c1, c2, hf, _⟩ := h
 exact ⟨k0, sd, q1, q2, q3, ((bcell k).1 _ _ hBB).symm.trans c0, ((bcell k).1 _ _ hBB).symm.trans c1, ((bcell k).1 _ _ hBB).symm.trans c2, fun o => ((bcell k).2 _ _ hBB).symm.trans (hf o), hBB⟩
theorem wpl_lnx {ops : Array Oper} {rest : List Oper} {o : Oper} {a : Act} {Q : PQ} (wS w : World) (hgd : o.guard = none) (s x : Operand)
  (ho : o.op = .call { callee := .builtin .append, args := #[s, x], argTypes := #[29, 29] }) (B : Nat) (v : Value) (it : Its) (u : Value) (ld : LD) (hs : a.eval s = v) (h : OwnLn wS B v it) (k : Nw wS w) (hB : B ≤ wS.heap.size) (hu : OwnP w wS.heap.size u ld.pts)
  (hx : a.eval x = .slice (some ⟨w.heap.size, 0, none⟩) 1 1) (hl : it.length + 1 ≤ 1000000)
  (hc : ∀ g' c' w', OwnLn w' B (.slice (some ⟨g', 0, none⟩) (it.length + 1) c') (it ++ [(u, ld)]) → Ext v (.slice (some ⟨g', 0, none⟩) (it.length + 1) c') wS w' → wpList Tryz.prog ops Q rest (a.put o.dst (.slice (some ⟨g', 0, none⟩) (it.length + 1) c')) w') : wpList Tryz.prog ops Q (o :: rest) a (w.alloc (.cells #[u, .bool ld.closed] 25)) :=
 wpList_plain hgd fun K hK => wp_lnx wS w s x ho B v it u ld hs h k hB hu hx hl fun g' c' w' h1 _ h3 => hK _ _ (hc g' c' w' h1 h3)
structure DlS (B R : Nat) (w wr : World) (ca : Option Addr) (len cap n : Nat) (v : Value) (it : Its) : Prop where
 own : OwnLn wr (R + 2) v it
 few : ∀ x, x ∈ it → x.2.pts.length ≤ 10
 cur : Cur wr B ca len cap n
 gr : Gr B w wr
 ans : PnB wr R ⟨0, 0, 0, 0⟩ (.slice none 0 0)
theorem DlS.go {B R : Nat} {w wr w2 : World} {ca : Option Addr} {len cap n n' : Nat} {v : Value} {it : Its} (h : DlS B R w wr ca len cap n v it) (hB : B = R + 1) (k : Gr B wr w2) (hc : Cur w2 B ca len cap n') : DlS B R w w2 ca len cap n' v it :=
 ⟨h.own.gr k (by omega), h.few, hc, h.gr.trans k, h.ans.gr k (by omega)⟩
theorem DlS.put {B R : Nat} {w wr w2 : World} {ca : Option Addr} {len cap n : Nat} {v v' u : Value} {it : Its} {ld : LD} (h : DlS B R w wr ca len cap n v it) (hw : w.heap.size = R + 2) (hB : B = R + 1) (hl : ld.pts.length ≤ 10) (ho : OwnLn w2 (R + 2) v' (it ++ [(u, ld)])) (x : Ext v v' wr w2) :
  DlS B R w w2 ca len cap n v' (it ++ [(u, ld)]) := by
 have hlo : ∀ g, v.ownBlock = some g → R + 2 ≤ g := fun g e => (OwnQ.lt h.own.own g e).1
 refine ⟨ho, fun y hy => ?_, h.cur.ext x (fun e => by have := hlo _ e; omega), h.gr.ext x (fun g e => by have := hlo g e; omega), h.ans.at (x.1.block R h.ans.lt (fun e => by have := hlo R e.symm; omega))⟩
 rcases List.mem_append.1 hy with hy | hy
 ·exact h.few y hy
 ·rw [List.mem_singleton] at hy; subst hy; exact hl
set_option maxRecDepth 100000 in
set_option maxHeartbeats 8000000 in
theorem drawStroke_any (w : World) (ca : Option Addr) (len cap : Nat) (hl : len ≤ 9223372036854775807) (hd : Code w w.heap.size ca len) :
  Calls Tryz.prog 9 #[.slice ca len cap] w fun e w' => ∃ (v : Value) (it : Its) (p : PD) (u : Value) (ns : List Int), e = .returned (.tuple #[v, penV p u]) ∧ OwnLn w' w.heap.size v it ∧ it.length ≤ 2 ∧ (∀ x, x ∈ it → x.2.pts.length ≤ 10) ∧ Ins w' w.heap.size u ns ∧ ns.length ≤ 9 ∧ Nw w w' := by
 obtain ⟨R, hR⟩ : ∃ R, w.heap.size = R := ⟨_, rfl⟩
 obtain ⟨W, hW⟩ : ∃ W, (w.alloc (.cells #[.int .i64 0, .int .i64 0, .int .i64 0, .slice none 0 0, .int .i64 0] 36)).alloc (.cells #[.slice ca len cap, .int .i64 0, .int .u64 0] 54) = W := ⟨_, rfl⟩
 have nw : Nw w W := by rw [← hW]; exact Nw.trans ((Below.refl _ _).alloc (Nat.le_refl _) _) ((Below.refl _ _).alloc (Nat.le_refl _) _)
 have hsz : W.heap.size = R + 2 := by rw [← hW, ← hR]; simp
 have C0 : Hid (Cur W (R + 1) ca len cap 0) := by
  show Cur _ _ _ _ _ _
  rw [← hW, ← hR]
  exact ⟨0, 0, by omega, by omega, by omega, by simp, by simp, by simp, fun o => World.frozen?_alloc_at _ _ _ _ (by simp), by simp⟩
 have D0 : Code W (R + 1) ca len := by
  have h := Code.below hd nw
  rw [hR] at h
  rcases h with h | ⟨b, off, h1, h2, h3⟩
  ·exact Or.inl h
  ·exact Or.inr ⟨b, off, h1, by omega, h3⟩
 have HD : Hid (∀ w', Gr (R + 1) W w' → Code w' (R + 1) ca len) := fun w' g => Code.below D0 (g.below (by omega))
 have A0 : PnB W R ⟨0, 0, 0, 0⟩ (.slice none 0 0) := by
  rw [← hW, ← hR]
  exact (PnB.new w ⟨0, 0, 0, 0⟩ _ _).gr (Gr.of_nw (B := w.heap.size + 1) ((Below.refl _ _).alloc (Nat.le_refl _) _)) (by omega)
 have S0 : Hid (DlS (R + 1) R W W ca len cap 0 (.slice none 0 0) []) := ⟨OwnLn.nil _ _, fun x hx => by simp at hx, C0.out, Gr.refl _ _, A0⟩
 have HSZ : Hid (W.heap.size = R + 2) := hsz
 have NW : Hid (Nw w W) := nw
 have HW : Hid (_ = W) := hW
 have HR : Hid (w.heap.size = R) := hR
 rw [hR]
 clear hd hW D0 hsz nw hR A0 C0
 go_enter Tryz.func9, Tryz.ntmps9
 go_wp2_with fail
 rw [HW.out, HR.out]
 refine (pick_any W (R + 1) ca len cap _ 3 hl (by omega) (by omega) (by omega) S0.out.cur (HD.out _ S0.out.gr)).mono ?_
 rintro e w1 ⟨x, rfl, x0, x1, hc1, hb1⟩
 obtain ⟨X, rfl⟩ := Int.eq_ofNat_of_zero_le x0
 have S1 : Hid (DlS (R + 1) R W w1 ca len cap (2 + 100 * 0) (.slice none 0 0) []) := S0.out.go rfl (Gr.of_sel hb1) (hc1.mono (by omega))
 clear hc1 hb1 S0 x0 HW
 go_wp2
 go_loopw [5, 6] (fun l u wr => ∃ (k j : Nat) (v : Value) (it : Its), l = v ∧ u = .int .i64 (k : Int) ∧ j + k ≤ 2 ∧ it.length = j ∧ DlS (R + 1) R W wr ca len cap (2 + 100 * j) v it) (fun _ u _ => (intOf u).toNat)
 case atStart => exact ⟨X, 0, _, [], rfl, rfl, by omega, rfl, S1.out⟩
 case round =>
  clear S1 x1
  obtain ⟨k, j, v, it, hv, rfl, hjk, hnl, hs⟩ := hrel
  have hv2 := hv.symm
  clear hv
  subst hv2
  have T : Hid (DlS (R + 1) R W wr ca len cap (2 + 100 * j) v it) := hs
  have HNL : Hid (it.length = j) := hnl
  clear hs hnl
  by_cases hk0 : 0 < k
  ·have dk : decide ((0 : Int) < (k : Int)) = true := by simp; omega
   obtain ⟨k2, hk2⟩ : ∃ k2, k = k2 + 1 := ⟨k - 1, by omega⟩
   subst hk2
   go_wp2_with fail
   refine (nearLine_any wr (R + 1) ca len cap _ hl (by omega) T.out.cur (HD.out _ T.out.gr)).mono ?_
   rintro e w4 ⟨u, cl, p, rfl, ho, hp, hc4, hg4⟩
   obtain ⟨wS, g1, g2, hz⟩ := Gr.split hg4 (T.out.cur.lt)
   have T4 : Hid (DlS (R + 1) R W wS ca len cap (2 + 100 * (j + 1)) v it) := T.out.go rfl g1 ((hc4.mono (by omega)).back g2 (by rw [hz]; exact T.out.cur.lt))
   have HS : Hid (OwnLn wS (R + 2) v it ∧ Nw wS w4 ∧ OwnP w4 wS.heap.size u p ∧ R + 2 ≤ wS.heap.size) := ⟨T.out.own.gr g1 (by omega), g2, by rw [hz]; exact ho, by rw [hz]; have := T.out.gr.size; have := HSZ.out; omega⟩
   have HP : Hid (p.length ≤ 10) := hp
   obtain ⟨ua, uc, hu, _⟩ := ho.pts
   subst hu
   have HIL : Hid (it.length + 1 ≤ 1000000) := by show _ ≤ _; have := HNL.out; omega
   clear ho hp hc4 hg4 g1 g2 hz T
   go_wp2_with (at_builtin; (refine wpl_lnx wS w4 rfl (.tmp 16) (.tmp 19) rfl (R + 2) _ it _ ⟨p, cl⟩ rfl HS.out.1 HS.out.2.1 HS.out.2.2.2 HS.out.2.2.1 ?hx HIL.out ?_))
   case hx => rfl
   intro g' c' w7 h1 h2
   have T7 : Hid (DlS (R + 1) R W w7 ca len cap (2 + 100 * (j + 1)) (.slice (some ⟨g', 0, none⟩) (it.length + 1) c') (it ++ [(.slice ua p.length uc, ⟨p, cl⟩)])) := T4.out.put HSZ.out rfl HP.out h1 h2
   clear h1 h2 T4
   go_wp2
   go_roundw
   case rel => exact ⟨k2, j + 1, _, _, rfl, by go_num, by omega, by rw [List.length_append, HNL.out]; rfl, T7.out⟩
   case measure => simp [intOf]
  ·have hk1 : k = 0 := by omega
   subst hk1
   have hll : it.length ≤ 2 := by have := HNL.out; omega
   obtain ⟨va, vc, hv, _⟩ := T.out.own.lines
   subst hv
   go_wp2_with fail
   refine (pen_any wr (R + 1) ca len cap _ hl (by omega) T.out.cur (HD.out _ T.out.gr)).mono ?_
   rintro e w5 ⟨p, u, ns, rfl, hi, hln, hc5, hg5⟩
   have T5 : Hid (DlS (R + 1) R W w5 ca len cap 1000 _ it) := T.out.go rfl hg5 (hc5.mono (by omega))
   obtain ⟨ua, uc, hu⟩ := ins_shape hi
   subst hu
   have HI : Hid (Ins w5 wr.heap.size (.slice ua ns.length uc) ns) := hi
   have hsr : R < wr.heap.size := T.out.ans.lt
   clear hi hc5 hg5
   obtain ⟨a0, a1, a2, a3, a4, af⟩ := T5.out.ans
   obtain ⟨y0, y1, y2, y3, y4, _⟩ := PnB.set5 (q := p) (u := .slice ua ns.length uc) T5.out.ans
   simp only [set5P] at y0 y1 y2 y3 y4
   have HF : Hid _ := And.intro (ins_far (ins_far (ins_far (ins_far (ins_far HI.out R 0 (.int .i64 p.w) hsr) R 1 (.int .i64 p.j) hsr) R 2 (.int .i64 p.c) hsr) R 3 (.slice ua ns.length uc) hsr) R 4 (.int .i64 p.f) hsr) ((((((Below.mono (T5.out.gr.below (by rw [HSZ.out]; omega)) (Nat.le_succ R)).setCell (show R ≤ (Addr.mk R 0 none).block from Nat.le_refl R) (.int .i64 p.w)).setCell (show R ≤ (Addr.mk R 1 none).block from Nat.le_refl R) (.int .i64 p.j)).setCell (show R ≤ (Addr.mk R 2 none).block from Nat.le_refl R) (.int .i64 p.c)).setCell (show R ≤ (Addr.mk R 3 none).block from Nat.le_refl R) (.slice ua ns.length uc)).setCell (show R ≤ (Addr.mk R 4 none).block from Nat.le_refl R) (.int .i64 p.f))
   have HO : Hid _ := ((((T5.out.own.farSet R 0 (.int .i64 p.w) (by omega)).farSet R 1 (.int .i64 p.j) (by omega)).farSet R 2 (.int .i64 p.c) (by omega)).farSet R 3 (.slice ua ns.length uc) (by omega)).farSet R 4 (.int .i64 p.f) (by omega)
   go_wp2
   refine bodyPost_ret (v := .tuple #[.slice va (it.map (·.2)).length vc, penV p (.slice ua ns.length uc)]) (by simp [results, Tryz.results9, go_sem, y0, y1, y2, y3, y4]) rfl ⟨_, it, p, _, ns, rfl, OwnLn.base HO.out (by omega), hll, T5.out.few, ins_base HF.out.1 (by omega), hln, ?_⟩
   exact Below.trans NW.out (Below.mono HF.out.2 (by rw [HR.out]; exact Nat.le_refl _))
theorem nw_drwN (w : World) (n : Nat) : Nw w (w.drewN n) := ⟨rfl, rfl, rfl, Nat.le_refl _, fun _ _ => rfl⟩
set_option maxRecDepth 100000 in
set_option maxHeartbeats 8000000 in
theorem sameLines_any (w : World) (a1 a2 : Option Addr) (c1 c2 : Nat) (l : List LD) (hl : l.length ≤ 1048576) (hla : lenL l) (h1 : Lines w a1 l) (h2 : Lines w a2 l) :
  Calls Tryz.prog 8 #[.slice a1 l.length c1, .slice a2 l.length c2] w fun e w' => e = .returned (.bool true) ∧ Nw w w' := by
 have H1 : Hid (Lines w a1 l) := h1
 have H2 : Hid (Lines w a2 l) := h2
 have HLA : Hid (lenL l) := hla
 clear h1 h2 hla
 go_enter Tryz.func8, Tryz.ntmps8
 go_wp2
 go_loopw [14] (fun i wr => ∃ k n : Nat, k ≤ l.length ∧ i = .int .i64 k ∧ wr = w.drewN n) (fun i _ => l.length - (intOf i).toNat)
 case atStart => exact ⟨0, 0, Nat.zero_le _, rfl, rfl⟩
 case round =>
  obtain ⟨k, n, hk, rfl, rfl⟩ := hrel
  by_cases hlt : k < l.length
  ·rcases H1.out with h | ⟨b1, o1, rfl, hb1, hc1⟩
   ·rw [h] at hlt; simp at hlt
   rcases H2.out with h | ⟨b2, o2, rfl, hb2, hc2⟩
   ·rw [h] at hlt; simp at hlt
   obtain ⟨⟨pa, pc, q0, hp⟩, q1⟩ := hc1 k hlt
   obtain ⟨⟨ra, rc, r0, hr⟩, r1⟩ := hc2 k hlt
   have i1 : (0 : Int) ≤ (k : Int) := by omega
   have i2 : (k : Int) < (l.length : Int) := by omega
   have hlk := HLA.out k hlt
   obtain ⟨V, hV⟩ : ∃ V, V = w.drewN n := ⟨_, rfl⟩
   have hcell : ∀ a, V.cell? a = w.cell? a := fun a => by rw [hV]; rfl
   replace q0 := (hcell _).trans q0
   replace q1 := (hcell _).trans q1
   replace r0 := (hcell _).trans r0
   replace r1 := (hcell _).trans r1
   have HP : Hid (Pts V pa (lnAt l k).pts) := by show Pts _ _ _; rw [hV]; exact hp.nw (nw_drwN w n)
   have HR : Hid (Pts V ra (lnAt l k).pts) := by show Pts _ _ _; rw [hV]; exact hr.nw (nw_drwN w n)
   clear hc1 hc2 hp hr
   generalize (lnAt l k).closed = cl at *
   generalize (lnAt l k).pts = p at *
   have hcc : (cl != cl) = false := by cases cl <;> rfl
   rw [← hV]
   have HV : Hid (V = w.drewN n) := hV
   have Q0 : Hid _ := q0
   have R0 : Hid _ := r0
   clear hV hcell
   go_wp2_with fail
   go_quiet (fail)
   go_wp2
   clear q0 q1 r0 r1
   go_loopw [49] (fun i wr => ∃ j m : Nat, j ≤ p.length ∧ i = .int .i64 j ∧ wr = V.drewN m) (fun i _ => p.length - (intOf i).toNat)
   case atStart => exact ⟨0, _, Nat.zero_le _, rfl, rfl⟩
   case round =>
    obtain ⟨j, m, hj, rfl, rfl⟩ := hrel
    by_cases hjl : j < p.length
    ·rcases HP.out with h | ⟨g1, s1, rfl, _, hc1⟩
     ·rw [h] at hjl; simp at hjl
     rcases HR.out with h | ⟨g2, s2, rfl, _, hc2⟩
     ·rw [h] at hjl; simp at hjl
     obtain ⟨x1, y1⟩ := hc1 j hjl
     obtain ⟨x2, y2⟩ := hc2 j hjl
     have q0 := Q0.out
     have r0 := R0.out
     have j1 : (0 : Int) ≤ (j : Int) := by omega
     have j2 : (j : Int) < (p.length : Int) := by omega
     generalize ptAt p j = t at *
     obtain ⟨tx, ty⟩ := t
     simp only at x1 y1 x2 y2
     obtain ⟨U, hU⟩ : ∃ U, U = V.drewN m := ⟨_, rfl⟩
     have hcu : ∀ a, U.cell? a = V.cell? a := fun a => by rw [hU]; rfl
     replace q0 := (hcu _).trans q0
     replace r0 := (hcu _).trans r0
     replace x1 := (hcu _).trans x1
     replace x2 := (hcu _).trans x2
     replace y1 := (hcu _).trans y1
     replace y2 := (hcu _).trans y2
     rw [← hU]
     have HU : Hid (U = V.drewN m) := hU
     clear hU hcu hc1 hc2
     go_wp2_with fail
     go_quiet (fail)
     go_wp2
     go_roundw
     case rel => exact ⟨j + 1, _, by omega, by go_num, by rw [HU.out]; exact World.drewN_drewN _ _ _⟩
     case measure => simp [intOf]; omega
    ·have hje : j = p.length := by omega
     have d1 : decide ((j : Int) < (p.length : Int)) = false := by simp; omega
     go_wp2
     go_roundw
     case rel => exact ⟨k + 1, _, by omega, by go_num, by rw [HV.out]; exact World.drewN_drewN _ _ _⟩
     case measure => simp [intOf]; omega
  ·go_wp2
   go_ret
   exact ⟨rfl, nw_drwN _ _⟩
theorem lenD_few {l : List LD} (h : manyL l ≤ 600) : lenL l := lenD_some h
theorem few_many : ∀ (it : Its), (∀ x, x ∈ it → x.2.pts.length ≤ 10) → manyL (it.map (·.2)) ≤ 10 * it.length
 | [], _ => by simp [manyL]
 | x :: r, h => by
  have h1 := h x (List.mem_cons_self ..)
  have h2 := few_many r (fun y hy => h y (List.mem_cons_of_mem _ hy))
  simp only [manyL, List.map_cons, List.sum_cons, List.length_cons] at h2 ⊢
  omega
theorem lines_one (w : World) (v : Option Addr) (p : List Pnt) (c : Nat) (cl : Bool) (t : TypeId) (h : Pts w v p) : Lines (w.alloc (.cells #[.slice v p.length c, .bool cl] t)) (some ⟨w.heap.size, 0, none⟩) [⟨p, cl⟩] := by
 have n1 : Nw w (w.alloc (.cells #[.slice v p.length c, .bool cl] t)) := (Below.refl _ _).alloc (Nat.le_refl _) _
 refine Or.inr ⟨w.heap.size, 0, rfl, by simp, fun i hi => ?_⟩
 have : i = 0 := by simpa using hi
 subst this
 exact ⟨⟨v, c, by simp [lnAt], h.nw n1⟩, by simp [lnAt]⟩
set_option maxRecDepth 100000 in
set_option maxHeartbeats 16000000 in
theorem walk_strokes (w : World) (a0 : Option Addr) (len0 cap0 : Nat) (a1 : Option Addr) (len1 cap1 : Nat) (ml0 : len0 ≤ 9223372036854775807) (ml1 : len1 ≤ 9223372036854775807) (hd0 : Code w w.heap.size a0 len0) (hd1 : Code w w.heap.size a1 len1) :
  Calls Tryz.prog 3 #[.slice a0 len0 cap0, .slice a1 len1 cap1] w fun e w' => e = .returned (.bool true) ∧ Below w.heap.size w w' := by
 have HC0 : Hid _ := hd0
 have HC1 : Hid (∀ W, Nw w W → Code W W.heap.size a1 len1) := fun W k => by
  have h := Code.below hd1 k
  rcases h with h | ⟨b, off, h1, h2, h3⟩
  ·exact Or.inl h
  ·exact Or.inr ⟨b, off, h1, Nat.lt_of_lt_of_le h2 (Below.size k), h3⟩
 clear hd0 hd1
 by_cases hbig : 1048576 < wrap64 ((len0 : Int) + (len1 : Int))
 ·go_enter Tryz.func3, Tryz.ntmps3
  go_wp2
  go_ret
  exact ⟨rfl, Below.refl _ _⟩
 ·go_enter Tryz.func3, Tryz.ntmps3
  go_wp2_with fail
  refine (drawDashed_any w a0 len0 cap0 ml0 HC0.out).mono ?_
  rintro e w1 ⟨v, cl, p, u, ns, f, rfl, ho, hp, hi, hn, n1⟩
  obtain ⟨pa, pc, rfl, hcap, hpts⟩ := OwnP.room ho
  obtain ⟨na, nc, rfl, hints⟩ := ins_ints hi
  have HP : Hid (∀ W, Nw w1 W → Pts W pa p) := fun W k => hpts.nw k
  have HI : Hid (∀ W, Nw w1 W → Ints W na ns) := fun W k => hints.nw k
  have N1 : Hid (Nw w w1) := n1
  obtain ⟨L, hL⟩ : ∃ L, w1.heap.size = L := ⟨_, rfl⟩
  obtain ⟨W1, hW1⟩ : ∃ W1, w1.alloc (.cells #[.slice pa p.length pc, .bool cl] 25) = W1 := ⟨_, rfl⟩
  have K1 : Hid (Nw w1 W1) := by show Nw _ _; rw [← hW1]; exact (Below.refl _ _).alloc (Nat.le_refl _) _
  have hb0 : W1.cell? ⟨L, 0, none⟩ = some (.slice pa p.length pc) := by rw [← hW1, ← hL]; simp
  have hb1 : W1.cell? ⟨L, 1, none⟩ = some (.bool cl) := by rw [← hW1, ← hL]; simp
  have hLW : L < W1.heap.size := World.block_lt_of_cell? W1 ⟨L, 0, none⟩ hb0
  have HB : Hid (∀ W, Nw W1 W → W.cell? ⟨L, 0, none⟩ = some (.slice pa p.length pc) ∧ W.cell? ⟨L, 1, none⟩ = some (.bool cl)) := fun W k => ⟨((bcell k).1 _ _ hLW).trans hb0, ((bcell k).1 _ _ hLW).trans hb1⟩
  have HW1 : Hid (_ = W1) := hW1
  have HL : Hid (w1.heap.size = L) := hL
  have hp2 : p.length ≤ 1048576 := by omega
  have hn2 : ns.length ≤ 1048576 := by omega
  clear ho hi n1 hpts hints hW1 hL hb0 hb1
  obtain ⟨b0, b1⟩ := HB.out W1 (Below.refl _ _)
  go_wp2_with fail
  rw [HW1.out, HL.out]
  go_wp2_with fail
  refine (idashed W1 pa pc p cl na nc ns f hp2 hn2 hcap (HP.out _ K1.out) (HI.out _ K1.out)).mono ?_
  rintro e w2 ⟨v2, rfl, h2, n2⟩
  have N2 : Hid (Nw W1 w2) := n2
  have D2 : Hid (LsOk w2 W1.heap.size v2 (dsV ns f p cl).1) := h2
  clear b0 b1 n2 h2
  obtain ⟨b0, b1⟩ := HB.out w2 N2.out
  go_wp2_with fail
  refine (sdashed w2 pa pc p cl na nc ns f hp2 hn2 (HP.out _ (Nw.trans K1.out N2.out)) (HI.out _ (Nw.trans K1.out N2.out))).mono ?_
  rintro e w3 ⟨v3, rfl, h3, n3⟩
  have N3 : Hid (Nw W1 w3) := Nw.trans N2.out n3
  obtain ⟨it2, o2, e2⟩ := D2.out.nw n3
  obtain ⟨it3, o3, e3⟩ := h3
  obtain ⟨a2, c2, hv2, l2⟩ := o2.lines
  obtain ⟨a3, c3, hv3, l3⟩ := o3.lines
  rw [e2] at hv2 l2
  rw [e3] at hv3 l3
  subst hv2 hv3
  have DB := dsV_bd ns f p cl
  have HDB : Hid _ := DB
  have HS : Hid _ := dsV_some (ns := ns) (f := f) (p := p) (cl := cl)
  have HX : Hid (∀ x0 x1 y0 y1 : Int, (∀ i, i < p.length → bxP x0 x1 y0 y1 (ptAt p i)) → ∀ l, l ∈ (dsV ns f p cl).1 → ∀ x, x ∈ l.pts → bxP x0 x1 y0 y1 x) := fun x0 x1 y0 y1 h => dsV_bx (fun a b => (szV_is a b).1) ns f p cl h
  obtain ⟨DL, hDL⟩ : ∃ DL, (dsV ns f p cl).1 = DL := ⟨_, rfl⟩
  obtain ⟨ok, hok⟩ : ∃ ok, (dsV ns f p cl).2 = ok := ⟨_, rfl⟩
  rw [hDL] at HX HDB l2 l3 D2 ⊢
  rw [hok] at HS ⊢
  have hdl : DL.length ≤ 1048576 := HDB.out.1
  have HSL : Hid _ := sameLines_any w3 a2 a3 c2 c3 DL hdl (lenD_few HDB.out.2) l2 l3
  have HL2 : Hid (Lines w3 a2 DL) := l2
  clear b0 b1 n3 o2 o3 l2 l3 e2 e3 DB hDL hok it2 it3 D2
  obtain ⟨b0, b1⟩ := HB.out w3 N3.out
  have hoo : (ok != ok) = false := by cases ok <;> rfl
  go_wp2_with fail
  refine Calls.mono HSL.out ?_
  rintro e w4 ⟨rfl, n4⟩
  have N4 : Hid (Nw W1 w4) := Nw.trans N3.out n4
  have L4 : Hid (Lines w4 a2 DL) := HL2.out.nw n4
  clear n4 b0 b1 HSL HL2
  obtain ⟨b0, b1⟩ := HB.out w4 N4.out
  go_wp2_with fail
  refine (idashed w4 pa pc p cl none 0 [] 0 hp2 (by simp) hcap (HP.out _ (Nw.trans K1.out N4.out)) (Or.inl rfl)).mono ?_
  rintro e w5 ⟨v5, rfl, h5, n5⟩
  have N5 : Hid (Nw W1 w5) := Nw.trans N4.out n5
  have L5 : Hid (Lines w5 a2 DL) := L4.out.nw n5
  have D5 : Hid (LsOk w5 w4.heap.size v5 (dsV [] 0 p cl).1) := h5
  have HPL : Hid _ := dsV_plain p cl
  clear h5 n5 b0 b1 L4
  obtain ⟨b0, b1⟩ := HB.out w5 N5.out
  cases hone : (dsV [] 0 p cl).2
  case' false =>
   obtain ⟨w6, n6, l6, h6⟩ : ∃ w6, Nw W1 w6 ∧ Lines w6 a2 DL ∧ w6 = w5 := ⟨_, N5.out, L5.out, rfl⟩
   rw [← h6]
   have N6 : Hid (Nw W1 w6) := n6
   have L6 : Hid (Lines w6 a2 DL) := l6
   rw [← h6] at b0 b1
   clear N5 L5 n6 l6 h6 D5 HPL
   go_upto_if 78 with fail
  case' true =>
   have e1 := congrArg Prod.fst (HPL.out hone)
   obtain ⟨it5, o5, e5⟩ := D5.out
   obtain ⟨a5, c5, hv5, l5⟩ := o5.lines
   rw [e5, e1] at hv5 l5
   subst hv5
   have n6 : Nw w5 (w5.alloc (.cells #[.slice pa p.length pc, .bool cl] 25)) := (Below.refl _ _).alloc (Nat.le_refl _) _
   have HSL : Hid _ := sameLines_any (w5.alloc (.cells #[.slice pa p.length pc, .bool cl] 25)) a5 (some ⟨w5.heap.size, 0, none⟩) c5 1 [⟨p, cl⟩] (by simp) (fun i hi => by
    have : i = 0 := by simpa using hi
    subst this
    exact hp2) (l5.nw n6) (lines_one w5 pa p pc cl _ (HP.out _ (Nw.trans K1.out N5.out)))
   have N5' : Hid _ := n6
   clear l5 o5 e5 e1 HPL D5 n6
   go_wp2_with fail
   refine Calls.mono HSL.out ?_
   rintro e w6 ⟨rfl, n6⟩
   have N6 : Hid (Nw W1 w6) := Nw.trans N5.out (Nw.trans N5'.out n6)
   have L6 : Hid (Lines w6 a2 DL) := L5.out.nw (Nw.trans N5'.out n6)
   clear n6 N5 L5 HSL N5' b0 b1
   obtain ⟨b0, b1⟩ := HB.out w6 N6.out
   go_upto_if 78 with fail
  all_goals
   go_cut [] (fun wx => Nw W1 wx)
   case first =>
    cases ok with
    | false =>
     go_wp2
     go_meet
     exact N6.out
    | true =>
     have hpos : 1 ≤ p.length := HS.out rfl
     rcases HP.out w6 (Nw.trans K1.out N6.out) with h | ⟨g, off, rfl, hg, hc⟩
     ·rw [h] at hpos; simp at hpos
     obtain ⟨x0, y0⟩ := hc 0 hpos
     have HC : Hid _ := hc
     have HG : Hid (g < w6.heap.size) := hg
     obtain ⟨px, hpx⟩ : ∃ px, (ptAt p 0).1 = px := ⟨_, rfl⟩
     obtain ⟨py, hpy⟩ : ∃ py, (ptAt p 0).2 = py := ⟨_, rfl⟩
     rw [hpx] at x0
     rw [hpy] at y0
     simp only [Nat.zero_mul, Nat.add_zero] at x0 y0
     have BN : Hid _ := BoxS.new w6 px py 34 p
     have i1 : (0 : Int) < (p.length : Int) := by omega
     have m1 : Nw w6 (w6.alloc (.cells #[.int .i64 px, .int .i64 py] 34)) := (Below.refl _ _).alloc (Nat.le_refl _) _
     have m2 : Nw w6 ((w6.alloc (.cells #[.int .i64 px, .int .i64 py] 34)).alloc (.cells #[.int .i64 px, .int .i64 py] 34)) := Nw.trans m1 ((Below.refl _ _).alloc (Nat.le_refl _) _)
     have hL6 : L < w6.heap.size := World.block_lt_of_cell? w6 ⟨L, 0, none⟩ b0
     have b0a := ((bcell m1).1 _ _ hL6).trans b0
     have x0a := ((bcell m1).1 _ _ hg).trans x0
     have y0a := ((bcell m1).1 _ _ hg).trans y0
     have b0b := ((bcell m2).1 _ _ hL6).trans b0
     have HLG : Hid (L < w6.heap.size) := hL6
     clear hc hg m1 m2 hL6
     go_wp2
     go_loopw [90] (fun u wr => ∃ (k : Nat) (lx ly hx hy : Int), u = .int .i64 (k : Int) ∧ k ≤ p.length ∧ BoxS w6 w6.heap.size (w6.heap.size + 1) wr lx ly hx hy p k) (fun u _ => p.length - (intOf u).toNat)
     case atStart => exact ⟨0, px, py, px, py, rfl, Nat.zero_le _, BN.out⟩
     case round =>
      clear BN b0 b1 b0a x0a y0a b0b x0 y0 hpx hpy
      obtain ⟨k, lx, ly, hx, hy, rfl, hk, hb⟩ := hrel
      have Z : Hid (BoxS w6 w6.heap.size (w6.heap.size + 1) wr lx ly hx hy p k) := hb
      clear hb
      obtain ⟨A, hA⟩ : ∃ A, w6.heap.size = A := ⟨_, rfl⟩
      rw [hA] at Z ⊢
      have HA : Hid (w6.heap.size = A) := hA
      by_cases hlt : k < p.length
      ·obtain ⟨x0, y0⟩ := HC.out k hlt
       have x1 := ((bcell Z.out.kept).1 _ _ HG.out).trans x0
       have y1 := ((bcell Z.out.kept).1 _ _ HG.out).trans y0
       obtain ⟨qx, hqx⟩ : ∃ qx, (ptAt p k).1 = qx := ⟨_, rfl⟩
       obtain ⟨qy, hqy⟩ : ∃ qy, (ptAt p k).2 = qy := ⟨_, rfl⟩
       rw [hqx] at x1
       rw [hqy] at y1
       have HQ : Hid (ptAt p k = (qx, qy)) := by show _ = _; rw [← hqx, ← hqy]
       have j1 : (0 : Int) ≤ (k : Int) := by omega
       have j2 : (k : Int) < (p.length : Int) := by omega
       have m1 : Nw wr (wr.alloc (.cells #[.int .i64 qx, .int .i64 qy] 34)) := (Below.refl _ _).alloc (Nat.le_refl _) _
       obtain ⟨C, hC⟩ : ∃ C, wr.heap.size = C := ⟨_, rfl⟩
       obtain ⟨W7, hW7⟩ : ∃ W', wr.alloc (.cells #[.int .i64 qx, .int .i64 qy] 34) = W' := ⟨_, rfl⟩
       have hc0 : W7.cell? ⟨C, 0, none⟩ = some (.int .i64 qx) := by rw [← hW7, ← hC]; simp
       have hc1 : W7.cell? ⟨C, 1, none⟩ = some (.int .i64 qy) := by rw [← hW7, ← hC]; simp
       have hla := Z.out.la
       have hlb := Z.out.lb
       rw [hW7] at m1
       have Z7 : Hid (BoxS w6 A (A + 1) W7 lx ly hx hy p k) := Z.out.nw m1
       have KC : Hid (∀ W, Nw W7 W ∨ True → True) := fun _ _ => trivial
       have HW7 : Hid (_ = W7) := hW7
       have HCC : Hid (wr.heap.size = C) := hC
       rw [hC] at hla hlb
       have l0 := Z7.out.l0
       have HC0 : Hid (W7.cell? ⟨C, 0, none⟩ = some (.int .i64 qx) ∧ W7.cell? ⟨C, 1, none⟩ = some (.int .i64 qy)) := ⟨hc0, hc1⟩
       have l0' : (wr.alloc (.cells #[.int .i64 qx, .int .i64 qy] 34)).cell? ⟨A, 0, none⟩ = some (.int .i64 lx) := by rw [HW7.out]; exact l0
       clear x0 y0 hqx hqy hA m1 hC hW7 Z KC hc0 hc1 l0
       go_upto_if 98 with fail
       rw [HW7.out, HCC.out]
       clear l0' x1 y1
       go_cut [] (fun wx => ∃ z1, z1 ≤ qx ∧ BoxS w6 A (A + 1) wx z1 ly hx hy p k ∧ wx.cell? ⟨C, 0, none⟩ = some (.int .i64 qx) ∧ wx.cell? ⟨C, 1, none⟩ = some (.int .i64 qy))
       case first =>
        have fa := Z7.out.fl
        have ca := Z7.out.l0
        obtain ⟨e0, e1⟩ := HC0.out
        by_cases hq : qx < lx
        ·have ZS : Hid _ := Z7.out.sa0 qx (by omega)
         have FC : Hid ((W7.setCell ⟨A, 0, none⟩ (.int .i64 qx)).cell? ⟨C, 0, none⟩ = some (.int .i64 qx) ∧ (W7.setCell ⟨A, 0, none⟩ (.int .i64 qx)).cell? ⟨C, 1, none⟩ = some (.int .i64 qy)) :=
          ⟨(World.cell?_setCell_other _ _ _ _ (fun e => by injection e; omega)).trans e0, (World.cell?_setCell_other _ _ _ _ (fun e => by injection e; omega)).trans e1⟩
         go_wp2
         go_meet
         exact ⟨qx, Int.le_refl _, ZS.out, FC.out⟩
        ·go_wp2
         go_meet
         exact ⟨lx, by omega, Z7.out, HC0.out⟩
       case rest =>
        obtain ⟨z1, r0, zb, f0, f1⟩ := hcut
        have Z8 : Hid (BoxS w6 A (A + 1) wc z1 ly hx hy p k) := zb
        have H8 : Hid (wc.cell? ⟨C, 0, none⟩ = some (.int .i64 qx) ∧ wc.cell? ⟨C, 1, none⟩ = some (.int .i64 qy)) := ⟨f0, f1⟩
        clear zb f0 f1 Z7 HC0
        obtain ⟨W8, hwc⟩ : ∃ W, wc = W := ⟨_, rfl⟩
        rw [hwc] at Z8 H8 ⊢
        clear hwc
        have ca := Z8.out.l1
        obtain ⟨e0, e1⟩ := H8.out
        go_upto_if 106 with fail
        go_cut [] (fun wx => ∃ z2, z2 ≤ qy ∧ BoxS w6 A (A + 1) wx z1 z2 hx hy p k ∧ wx.cell? ⟨C, 0, none⟩ = some (.int .i64 qx) ∧ wx.cell? ⟨C, 1, none⟩ = some (.int .i64 qy))
        case first =>
         have fa := Z8.out.fl
         have ca := Z8.out.l1
         obtain ⟨e0, e1⟩ := H8.out
         by_cases hq : qy < ly
         ·have ZS : Hid _ := Z8.out.sa1 qy (by omega)
          have FC : Hid ((W8.setCell ⟨A, 1, none⟩ (.int .i64 qy)).cell? ⟨C, 0, none⟩ = some (.int .i64 qx) ∧ (W8.setCell ⟨A, 1, none⟩ (.int .i64 qy)).cell? ⟨C, 1, none⟩ = some (.int .i64 qy)) :=
           ⟨(World.cell?_setCell_other _ _ _ _ (fun e => by injection e; omega)).trans e0, (World.cell?_setCell_other _ _ _ _ (fun e => by injection e; omega)).trans e1⟩
          go_wp2
          go_meet
          exact ⟨qy, Int.le_refl _, ZS.out, FC.out⟩
         ·go_wp2
          go_meet
          exact ⟨ly, by omega, Z8.out, H8.out⟩
        case rest =>
         obtain ⟨z2, r1, zb, f0, f1⟩ := hcut
         have Z9 : Hid (BoxS w6 A (A + 1) wc z1 z2 hx hy p k) := zb
         have H9 : Hid (wc.cell? ⟨C, 0, none⟩ = some (.int .i64 qx) ∧ wc.cell? ⟨C, 1, none⟩ = some (.int .i64 qy)) := ⟨f0, f1⟩
         clear zb f0 f1 Z8 H8
         obtain ⟨W9, hwc⟩ : ∃ W, wc = W := ⟨_, rfl⟩
         rw [hwc] at Z9 H9 ⊢
         clear hwc
         have ca := Z9.out.h0
         obtain ⟨e0, e1⟩ := H9.out
         go_upto_if 114 with fail
         go_cut [] (fun wx => ∃ z3, qx ≤ z3 ∧ BoxS w6 A (A + 1) wx z1 z2 z3 hy p k ∧ wx.cell? ⟨C, 0, none⟩ = some (.int .i64 qx) ∧ wx.cell? ⟨C, 1, none⟩ = some (.int .i64 qy))
         case first =>
          have fa := Z9.out.fh
          have ca := Z9.out.h0
          obtain ⟨e0, e1⟩ := H9.out
          by_cases hq : hx < qx
          ·have ZS : Hid _ := Z9.out.sb0 qx (by omega)
           have FC : Hid ((W9.setCell ⟨(A + 1), 0, none⟩ (.int .i64 qx)).cell? ⟨C, 0, none⟩ = some (.int .i64 qx) ∧ (W9.setCell ⟨(A + 1), 0, none⟩ (.int .i64 qx)).cell? ⟨C, 1, none⟩ = some (.int .i64 qy)) :=
            ⟨(World.cell?_setCell_other _ _ _ _ (fun e => by injection e; omega)).trans e0, (World.cell?_setCell_other _ _ _ _ (fun e => by injection e; omega)).trans e1⟩
           go_wp2
           go_meet
           exact ⟨qx, Int.le_refl _, ZS.out, FC.out⟩
          ·go_wp2
           go_meet
           exact ⟨hx, by omega, Z9.out, H9.out⟩
         case rest =>
          obtain ⟨z3, r2, zb, f0, f1⟩ := hcut
          have Z10 : Hid (BoxS w6 A (A + 1) wc z1 z2 z3 hy p k) := zb
          have H10 : Hid (wc.cell? ⟨C, 0, none⟩ = some (.int .i64 qx) ∧ wc.cell? ⟨C, 1, none⟩ = some (.int .i64 qy)) := ⟨f0, f1⟩
          clear zb f0 f1 Z9 H9
          obtain ⟨W10, hwc⟩ : ∃ W, wc = W := ⟨_, rfl⟩
          rw [hwc] at Z10 H10 ⊢
          clear hwc
          have ca := Z10.out.h1
          obtain ⟨e0, e1⟩ := H10.out
          have fa := Z10.out.fh
          by_cases hq : hy < qy
          ·have ZS : Hid _ := (Z10.out.sb1 qy (by omega)).step HQ.out ⟨⟨r0, r2⟩, r1, Int.le_refl _⟩
           go_wp2
           go_roundw
           case rel => exact ⟨k + 1, z1, z2, z3, qy, by go_num, hlt, ZS.out⟩
           case measure => simp [intOf]; omega
          ·have hq2 : qy ≤ hy := by omega
           go_wp2
           go_roundw
           case rel => exact ⟨k + 1, z1, z2, z3, hy, by go_num, hlt, Z10.out.step HQ.out ⟨⟨r0, r2⟩, r1, hq2⟩⟩
           case measure => simp [intOf]; omega
      ·have hke : k = p.length := by omega
       subst hke
       obtain ⟨WA, hWA⟩ : ∃ W, W = wr := ⟨_, rfl⟩
       subst hWA
       have HBX : Hid _ := HX.out lx hx ly hy Z.out.box
       have L7 : Hid (Lines WA a2 DL) := L6.out.nw Z.out.kept
       have NA : Hid (Nw W1 WA) := Nw.trans N6.out Z.out.kept
       clear hA hlt HC
       go_wp2
       go_loopw [129] (fun u wx => ∃ j : Nat, u = .int .i64 (j : Int) ∧ j ≤ DL.length ∧ Nw WA wx) (fun u _ => DL.length - (intOf u).toNat)
       case atStart => exact ⟨0, rfl, Nat.zero_le _, Below.refl _ _⟩
       case round =>
        obtain ⟨j, rfl, hj, hn⟩ := hrel
        have NJ : Hid (Nw WA wr) := hn
        clear hn
        by_cases hjl : j < DL.length
        ·rcases L7.out.nw NJ.out with h | ⟨b, o, rfl, hb, hc⟩
         ·rw [h] at hjl; simp at hjl
         obtain ⟨⟨qa, qc, q0, hq⟩, q1⟩ := hc j hjl
         have HM : Hid (∀ m, m < (lnAt DL j).pts.length → bxP lx hx ly hy (ptAt (lnAt DL j).pts m)) := fun m hm => by
          refine HBX.out (lnAt DL j) ?_ _ ?_
          ·unfold lnAt; rw [List.getD_eq_getElem?_getD, List.getElem?_eq_getElem hjl]; exact List.getElem_mem _
          ·unfold ptAt; rw [List.getD_eq_getElem?_getD, List.getElem?_eq_getElem hm]; exact List.getElem_mem _
         have HQ2 : Hid (Pts wr qa (lnAt DL j).pts) := hq
         have hlq := lenD_few HDB.out.2 j hjl
         have i1 : (0 : Int) ≤ (j : Int) := by omega
         have i2 : (j : Int) < (DL.length : Int) := by omega
         clear hc hq
         generalize (lnAt DL j).pts = r at *
         generalize (lnAt DL j).closed = rc at *
         obtain ⟨WI, hWI⟩ : ∃ W, W = wr := ⟨_, rfl⟩
         subst hWI
         obtain ⟨M, hM⟩ : ∃ M, WI.alloc (.cells #[.slice qa r.length qc, .bool rc] 25) = M := ⟨_, rfl⟩
         have m1 : Nw WI M := by rw [← hM]; exact (Below.refl _ _).alloc (Nat.le_refl _) _
         have NM : Hid (Nw WI M) := m1
         have HMM : Hid (_ = M) := hM
         clear m1 hM
         go_wp2
         rw [HMM.out]
         go_loopw [136] (fun u wx => ∃ m : Nat, u = .int .i64 (m : Int) ∧ m ≤ r.length ∧ Nw M wx) (fun u _ => r.length - (intOf u).toNat)
         case atStart => exact ⟨0, rfl, Nat.zero_le _, Below.refl _ _⟩
         case round =>
          clear q0 q1
          obtain ⟨m, rfl, hm, hn⟩ := hrel
          have NI : Hid (Nw M wr) := hn
          clear hn
          by_cases hml : m < r.length
          ·rcases HQ2.out with h | ⟨g2, o2, rfl, hg2, hc2⟩
           ·rw [h] at hml; simp at hml
           obtain ⟨x0, y0⟩ := hc2 m hml
           have hbx := HM.out m hml
           have nWI : Nw WI wr := Nw.trans NM.out NI.out
           have x1 := ((bcell nWI).1 _ _ hg2).trans x0
           have y1 := ((bcell nWI).1 _ _ hg2).trans y0
           generalize ptAt r m = t at *
           obtain ⟨tx, ty⟩ := t
           unfold bxP at hbx
           simp only at x1 y1 hbx
           obtain ⟨⟨g1, g3⟩, g4, g5⟩ := hbx
           have m1 : Nw wr (wr.alloc (.cells #[.int .i64 tx, .int .i64 ty] 34)) := (Below.refl _ _).alloc (Nat.le_refl _) _
           have M1 : Hid _ := m1
           have ZI := (Z.out.nw (Nw.trans NJ.out nWI)).nw m1
           have k0 := ZI.l0
           have k1 := ZI.l1
           have k2 := ZI.h0
           have k3 := ZI.h1
           have j1 : (0 : Int) ≤ (m : Int) := by omega
           have j2 : (m : Int) < (r.length : Int) := by omega
           clear x0 y0 hc2 ZI m1 nWI
           go_wp2
           go_roundw
           case rel => exact ⟨m + 1, by go_num, hml, Nw.trans NI.out M1.out⟩
           case measure => simp [intOf]; omega
          ·have hme : m = r.length := by omega
           have d2 : decide ((m : Int) < (r.length : Int)) = false := by simp; omega
           go_wp2
           go_roundw
           case rel => exact ⟨j + 1, by go_num, hjl, Nw.trans NJ.out (Nw.trans NM.out NI.out)⟩
           case measure => simp [intOf]; omega
        ·have hje : j = DL.length := by omega
         have d1 : decide ((j : Int) < (DL.length : Int)) = false := by simp; omega
         go_wp2
         go_meet
         exact Nw.trans NA.out NJ.out
   case rest =>
    clear HDB HX HS L6 N6
    have NX : Hid (Nw w wc) := Nw.trans N1.out (Nw.trans K1.out hcut)
    go_wp2_with fail
    refine (drawStroke_any wc a1 len1 cap1 ml1 (HC1.out wc NX.out)).mono ?_
    rintro e v1 ⟨sv, it, pn, su, ms, rfl, so, hit, hfw, si, hms, sn⟩
    obtain ⟨sa, sc, rfl, slc⟩ := OwnLn.linesC so
    obtain ⟨ma, mc, rfl, mi⟩ := ins_ints si
    have hls : (it.map (·.2)).length ≤ 1048576 := by rw [List.length_map]; omega
    have hml : manyL (it.map (·.2)) ≤ 1048576 := by have := few_many it hfw; omega
    have hms2 : ms.length ≤ 1048576 := by omega
    generalize it.map (·.2) = SL at *
    have SLC : Hid (LinesC v1 sa SL) := slc
    have SMI : Hid (Ints v1 ma ms) := mi
    have SN : Hid (Nw w v1) := Nw.trans NX.out sn
    have SCL : Hid _ := stkV_closed SL pn ms
    have SWD : Hid _ := stkV_wide SL pn ms
    clear so si hfw slc mi sn NX hit hms HB HP HI hcut
    obtain ⟨V2, hV2⟩ : ∃ V2, v1.alloc (.cells #[.int .i64 pn.w, .int .i64 pn.j, .int .i64 pn.c, .slice ma ms.length mc, .int .i64 pn.f] 36) = V2 := ⟨_, rfl⟩
    have m2 : Nw v1 V2 := by rw [← hV2]; exact (Below.refl _ _).alloc (Nat.le_refl _) _
    have M2 : Hid _ := m2
    have HV2 : Hid (_ = V2) := hV2
    clear hV2 m2
    go_wp2_with fail
    rw [HV2.out]
    have hb0 : V2.cell? ⟨v1.heap.size, 0, none⟩ = some (.int .i64 pn.w) := by rw [← HV2.out]; simp
    have hb1 : V2.cell? ⟨v1.heap.size, 1, none⟩ = some (.int .i64 pn.j) := by rw [← HV2.out]; simp
    have hb2 : V2.cell? ⟨v1.heap.size, 2, none⟩ = some (.int .i64 pn.c) := by rw [← HV2.out]; simp
    have hb3 : V2.cell? ⟨v1.heap.size, 3, none⟩ = some (.slice ma ms.length mc) := by rw [← HV2.out]; simp
    have hb4 : V2.cell? ⟨v1.heap.size, 4, none⟩ = some (.int .i64 pn.f) := by rw [← HV2.out]; simp
    have HPB : Hid (∀ W, Nw V2 W → W.cell? ⟨v1.heap.size, 0, none⟩ = some (.int .i64 pn.w) ∧ W.cell? ⟨v1.heap.size, 1, none⟩ = some (.int .i64 pn.j) ∧ W.cell? ⟨v1.heap.size, 2, none⟩ = some (.int .i64 pn.c) ∧ W.cell? ⟨v1.heap.size, 3, none⟩ = some (.slice ma ms.length mc) ∧ W.cell? ⟨v1.heap.size, 4, none⟩ = some (.int .i64 pn.f)) := fun W k => by
     have hl := World.block_lt_of_cell? V2 ⟨v1.heap.size, 0, none⟩ hb0
     exact ⟨((bcell k).1 _ _ hl).trans hb0, ((bcell k).1 _ _ hl).trans hb1, ((bcell k).1 _ _ hl).trans hb2, ((bcell k).1 _ _ hl).trans hb3, ((bcell k).1 _ _ hl).trans hb4⟩
    clear hb0 hb1 hb2 hb3 hb4
    have HFEW : Hid _ := stkV_few SL pn ms
    refine (istrokeLines V2 sa sc SL pn ma mc ms hls hml hms2 (SLC.out.nw M2.out) (Ints.nw SMI.out M2.out)).mono ?_
    rintro e v3 ⟨x3, rfl, y3, z3⟩
    have Z3 : Hid (Nw V2 v3) := z3
    obtain ⟨it3, o3, e3⟩ := y3
    obtain ⟨a3, c3, hv3, l3⟩ := o3.lines
    rw [e3] at hv3 l3
    subst hv3
    have HS2 : Hid (∀ W, Nw V2 W → _) := fun W k => sstrokeLines W sa sc SL pn ma mc ms hls hml hms2 (Lines.nw (SLC.out.nw M2.out).lines k) (Ints.nw (Ints.nw SMI.out M2.out) k)
    obtain ⟨ZL, hZL⟩ : ∃ ZL, (stkV SL pn ms).1 = ZL := ⟨_, rfl⟩
    obtain ⟨zb, hzb⟩ : ∃ zb, (stkV SL pn ms).2 = zb := ⟨_, rfl⟩
    have HSS : Hid (∀ W, Nw V2 W → Calls Tryz.prog 11 #[.slice sa SL.length sc, penV pn (.slice ma ms.length mc)] W fun e w' => ∃ v, e = .returned (.tuple #[v, .bool zb]) ∧ Nw W w') := fun W k => by
     refine (HS2.out W k).mono ?_
     rintro e w' ⟨v, rfl, _, n⟩
     exact ⟨v, by rw [hzb], n⟩
    rw [hZL] at l3 SCL SWD HFEW ⊢
    rw [hzb]
    have HL3 : Hid (Lines v3 a3 ZL) := l3
    have hzl : ZL.length ≤ 1048576 := HFEW.out
    clear HS2 hZL hzb o3 e3 l3 z3 SLC SMI hls hml
    obtain ⟨p0, p1, p2, p3, p4⟩ := HPB.out v3 Z3.out
    go_wp2_with fail
    refine (HSS.out v3 Z3.out).mono ?_
    rintro e v4 ⟨x4, rfl, n4⟩
    have Z4 : Hid (Nw V2 v4) := Nw.trans Z3.out n4
    have L4 : Hid (Lines v4 a3 ZL) := HL3.out.nw n4
    have hzz : (zb != zb) = false := by cases zb <;> rfl
    clear p0 p1 p2 p3 p4 n4 HSS HL3
    go_wp2
    go_loopw [190] (fun u wx => ∃ j : Nat, u = .int .i64 (j : Int) ∧ j ≤ ZL.length ∧ Nw v4 wx) (fun u _ => ZL.length - (intOf u).toNat)
    case atStart => exact ⟨0, rfl, Nat.zero_le _, Below.refl _ _⟩
    case round =>
     obtain ⟨j, rfl, hj, hn⟩ := hrel
     have NJ : Hid (Nw v4 wr) := hn
     clear hn
     by_cases hjl : j < ZL.length
     ·rcases L4.out.nw NJ.out with h | ⟨b, o, rfl, hb, hc⟩
      ·rw [h] at hjl; simp at hjl
      obtain ⟨⟨qa, qc, q0, hq⟩, q1⟩ := hc j hjl
      have hcl : (lnAt ZL j).closed = true := SCL.out _ (by unfold lnAt; rw [List.getD_eq_getElem?_getD, List.getElem?_eq_getElem hjl]; exact List.getElem_mem _)
      rw [hcl] at q1
      have i1 : (0 : Int) ≤ (j : Int) := by omega
      have i2 : (j : Int) < (ZL.length : Int) := by omega
      have m1 : Nw wr (wr.alloc (.cells #[.slice qa (lnAt ZL j).pts.length qc, .bool true] 25)) := (Below.refl _ _).alloc (Nat.le_refl _) _
      have M1 : Hid _ := m1
      clear hc hq hcl m1
      generalize (lnAt ZL j).pts.length = r at *
      go_wp2
      go_roundw
      case rel => exact ⟨j + 1, by go_num, hjl, Nw.trans NJ.out M1.out⟩
      case measure => simp [intOf]; omega
     ·have hje : j = ZL.length := by omega
      have d1 : decide ((j : Int) < (ZL.length : Int)) = false := by simp; omega
      obtain ⟨p0, p1, p2, p3, p4⟩ := HPB.out wr (Nw.trans Z4.out NJ.out)
      have NE : Hid (Nw w wr) := Nw.trans SN.out (Nw.trans M2.out (Nw.trans Z4.out NJ.out))
      by_cases hw : 0 < pn.w
      ·go_wp2
       go_ret
       exact ⟨rfl, NE.out⟩
      ·have hz : ZL.length = 0 := by
        rcases SWD.out with h | h
        ·exact absurd h hw
        ·rw [h]; rfl
       go_wp2
       go_ret
       exact ⟨rfl, NE.out⟩
end Go.Proofs.YtnkeljmecbohkaaGreat
