/-
  What the specification makes of a shape, its parts; each the
-/
import Derived.Test.YtdjemnbdaddegaaJAH
import Derived.Test.YtdjemnbdaddegaaJAI
import Derived.Test.YtdjemnbdaddegaaJAM
import Derived.Test.YtdjemnbdaddegaaJAL
import Derived.Test.YtdjemnbdaddegaaJAQ
import Derived.Deep.DeepCutAuto
import Derived.Deep.CutBlock
import Derived.Deep.RegionHeld3
import Derived.Test.YtdjemnbdaddegaaJAA
namespace Go.Proofs.Ytdjemnbdaddegaa
open Go.ChangeShapes Go.WideShapes Go.ChangeAt Go.RowKit
set_option linter.unusedVariables false
def LineS (w : World) (e : Ending) (w' : World) : Prop := ∃ (pa : Option Addr) (pc : Nat) (ps : List Pnt) (cl ok : Bool), e = .returned (.tuple #[.agg #[.slice pa ps.length pc, .bool cl], .bool ok]) ∧ PtsF w.heap.size w' pa ps ∧ ps.length ≤ 1000 ∧ Nw w w'
theorem rect_some (x y wide high r : Int) (w : World) : Calls Try.prog 34 #[.int .i64 x, .int .i64 y, .int .i64 wide, .int .i64 high, .int .i64 r] w fun e w' => LineS w e w' := by
 refine (srect x y wide high r w).mono ?_
 rintro e w' ⟨v, rfl, ho, k⟩
 obtain ⟨a, c, rfl, hp⟩ := ownp_ptsF ho
 refine ⟨a, c, _, _, _, rfl, hp, ?_, k⟩
 unfold rectV
 split
 ·have := rectP_len x y wide high r; simp only; omega
 ·simp
theorem elli_some (cx cy rx ry : Int) (w : World) : Calls Try.prog 29 #[.int .i64 cx, .int .i64 cy, .int .i64 rx, .int .i64 ry] w fun e w' => LineS w e w' := by
 refine (sellipse cx cy rx ry w).mono ?_
 rintro e w' ⟨v, rfl, ho, k⟩
 obtain ⟨a, c, rfl, hp⟩ := ownp_ptsF ho
 refine ⟨a, c, _, _, _, rfl, hp, ?_, k⟩
 unfold elV
 split
 ·rw [roundsP_len]; omega
 ·simp
theorem ownln_linesF {w : World} {B : Nat} {v : Value} {it : Its} (h : OwnLn w B v it) : ∃ a c, v = .slice a (it.map (·.2)).length c ∧ LinesF B w a (it.map (·.2)) := by
 rcases OwnQ.form h.own with ⟨e1, e2⟩ | ⟨g, c, e1, hB, h3, _, _, h4, _⟩
 ·have e : it = [] := by
   have := congrArg List.length e2
   simp [vLn] at this
   exact this
  subst e
  exact ⟨none, 0, e1, Or.inl rfl⟩
 ·have hlen : (vLn it).length = it.length := by simp [vLn]
  rw [hlen] at e1 h4
  refine ⟨_, c, by rw [List.length_map]; exact e1, Or.inr ⟨g, 0, rfl, hB, h3, fun i hi => ?_⟩⟩
  rw [List.length_map] at hi
  obtain ⟨k1, k2⟩ := h4 i hi
  obtain ⟨pa, pc, hp1, hp2⟩ := ownp_ptsF (h.pts i hi)
  have el : lnAt (it.map (·.2)) i = (itAt it i).2 := by simp [lnAt, itAt, hi]
  have ev : vvAt (vLn it) i = ((itAt it i).1, .bool (itAt it i).2.closed) := by simp [vvAt, vLn, itAt, hi]
  rw [ev] at k1 k2
  rw [el, Nat.zero_add]
  exact ⟨⟨pa, pc, by rw [k1, hp1], hp2⟩, k2⟩
theorem linesOf_some (w : World) (a : Option Addr) (c : Nat) (l : List SD) (hl : l.length ≤ 60) (hns : ∀ i, i < l.length → (stAt l i).ns.length ≤ 6) (hr : Steps w a l) :
  Calls Try.prog 21 #[.slice a l.length c] w fun e w' => LinesS w e w' := by
 refine (slinesOf w a c l (by omega) (fun i hi => by have := hns i hi; omega) hr).mono ?_
 rintro e w' ⟨v, rfl, ⟨it, ho, hi⟩, k⟩
 obtain ⟨la, lc, rfl, hln⟩ := ownln_linesF ho
 rw [hi] at hln ⊢
 refine ⟨la, lc, _, _, rfl, hln, ?_, ?_, k⟩
 ·unfold lsV
  cases b : stsB l with
  | false => simp
  | true =>
   obtain ⟨h60, hok⟩ := stsB_all b
   have h1 := endL_len (stS l l.length).o (stS l l.length).p false
   have h2 := (stS_bd hok l.length (Nat.le_refl _)).2.2.1
   show (lnsP l).length ≤ 1000
   unfold lnsP
   omega
 ·unfold lsV
  cases b : stsB l with
  | false => simp [manyL]
  | true =>
   obtain ⟨h60, hok⟩ := stsB_all b
   have := lns_many hok h60
   show manyL (lnsP l) ≤ 10000
   omega
def NdB (w : World) (b : Nat) (nm tx : ByteArray) (up : Int) (a : Option Addr) (n c : Nat) : Prop := w.cell? ⟨b, 0, none⟩ = some (.string nm) ∧ w.cell? ⟨b, 1, none⟩ = some (.int .i64 up) ∧ w.cell? ⟨b, 2, none⟩ = some (.slice a n c) ∧ w.cell? ⟨b, 3, none⟩ = some (.string tx) ∧ AtR w a n ∧ b < w.heap.size
theorem NdB.nw {w w' : World} {b : Nat} {nm tx : ByteArray} {up : Int} {a : Option Addr} {n c : Nat} (h : NdB w b nm tx up a n c) (k : Nw w w') : NdB w' b nm tx up a n c := by
 obtain ⟨h0, h1, h2, h3, h4, h5⟩ := h
 exact ⟨((bcell k).1 _ _ h5).trans h0, ((bcell k).1 _ _ h5).trans h1, ((bcell k).1 _ _ h5).trans h2, ((bcell k).1 _ _ h5).trans h3, h4.nw k, Nat.lt_of_lt_of_le h5 (Below.size k)⟩
theorem NdB.new (w : World) (nm tx : ByteArray) (up : Int) (a : Option Addr) (n c : Nat) (t : TypeId) (h : AtR w a n) : NdB (w.alloc (.cells #[.string nm, .int .i64 up, .slice a n c, .string tx] t)) w.heap.size nm tx up a n c :=
 ⟨by simp, by simp, by simp, by simp, h.nw ((Below.refl _ _).alloc (Nat.le_refl _) _), by simp⟩
theorem ins_cells {w : World} {B : Nat} {v : Value} {l : List Int} {m : Nat} (h : Ins w B v l) (hm : l.length = m) (h0 : 0 < m) : ∃ g c, v = .slice (some ⟨g, 0, none⟩) m c ∧ g < w.heap.size ∧ ∀ i, i < m → w.cell? ⟨g, i, none⟩ = some (.int .i64 (intAt l i)) := by
 rcases h.lay with ⟨_, e⟩ | ⟨g, c, e, hB, hl⟩
 ·rw [e] at hm; simp at hm; omega
 ·rw [hm] at e
  exact ⟨g, c, e, hl.1, fun i hi => hl.2.1 i (by omega)⟩
theorem LinesS.trans {a b c : World} {e : Ending} (h : LinesS b e c) (k : Nw a b) : LinesS a e c := by
 obtain ⟨x, y, l, ok, h1, h2, h3, h4, h5⟩ := h
 exact ⟨x, y, l, ok, h1, h2.mono (Below.size k), h3, h4, k.trans h5⟩
theorem ins_some {w : World} {B : Nat} {v : Value} {l : List Int} (h : Ins w B v l) : ∃ a c, v = .slice a l.length c ∧ Ints w a l := by
 rcases h.lay with ⟨rfl, rfl⟩ | ⟨g, c, rfl, _, hl⟩
 ·exact ⟨none, 0, rfl, Or.inl rfl⟩
 ·exact ⟨_, c, rfl, Or.inr ⟨g, 0, rfl, hl.1, fun i hi => by rw [Nat.zero_add]; exact hl.2.1 i hi⟩⟩
theorem keep5 {w w' : World} {g : Nat} {x0 x1 x2 x3 x4 : Int} (hg : g < w.heap.size) (k : Nw w w') (h : w.cell? ⟨g, 0, none⟩ = some (.int .i64 x0) ∧ w.cell? ⟨g, 1, none⟩ = some (.int .i64 x1) ∧ w.cell? ⟨g, 2, none⟩ = some (.int .i64 x2) ∧ w.cell? ⟨g, 3, none⟩ = some (.int .i64 x3) ∧ w.cell? ⟨g, 4, none⟩ = some (.int .i64 x4)) : w'.cell? ⟨g, 0, none⟩ = some (.int .i64 x0) ∧ w'.cell? ⟨g, 1, none⟩ = some (.int .i64 x1) ∧ w'.cell? ⟨g, 2, none⟩ = some (.int .i64 x2) ∧ w'.cell? ⟨g, 3, none⟩ = some (.int .i64 x3) ∧ w'.cell? ⟨g, 4, none⟩ = some (.int .i64 x4) := by
 obtain ⟨h0, h1, h2, h3, h4⟩ := h
 exact ⟨((bcell k).1 _ _ hg).trans h0, ((bcell k).1 _ _ hg).trans h1, ((bcell k).1 _ _ hg).trans h2, ((bcell k).1 _ _ hg).trans h3, ((bcell k).1 _ _ hg).trans h4⟩
set_option maxRecDepth 100000 in
set_option maxHeartbeats 8000000 in
theorem shape_rect (w : World) (nm tx : ByteArray) (up : Int) (a : Option Addr) (n c : Nat) (hn : n ≤ 1000) (hr : AtR w a n) (hnm : nm = ⟨#[114, 101, 99, 116]⟩) :
  Calls Try.prog 84 #[.agg #[.string nm, .int .i64 up, .slice a n c, .string tx]] w fun e w' => LinesS w e w' := by
 subst hnm
 obtain ⟨W, hW⟩ : ∃ W, w.alloc (.cells #[.string ⟨#[114, 101, 99, 116]⟩, .int .i64 up, .slice a n c, .string tx] 131) = W := ⟨_, rfl⟩
 have NW : Hid (Nw w W) := by show Nw _ _; rw [← hW]; exact (Below.refl _ _).alloc (Nat.le_refl _) _
 have ND : Hid (NdB W w.heap.size ⟨#[114, 101, 99, 116]⟩ tx up a n c) := by show NdB _ _ _ _ _ _ _ _; rw [← hW]; exact NdB.new w _ tx up a n c _ hr
 have HW : Hid (_ = W) := hW
 obtain ⟨R, hR⟩ : ∃ R, w.heap.size = R := ⟨_, rfl⟩
 have HR : Hid (w.heap.size = R) := hR
 rw [hR] at ND
 clear hW hr hR
 go_enter Try.func84, Try.ntmps84
 go_upto_region 1 with fail
 rw [HW.out, HR.out]
 clear HW
 obtain ⟨y0, y1, y2, y3, _, _⟩ := ND.out
 go_wp2_with fail
 refine (sattr_some W _ tx ⟨#[114, 120]⟩ up a n c hn ND.out.2.2.2.2.1).mono ?_
 rintro e w1 ⟨y, ok, rfl, hy, k1⟩
 have N1 : Hid (Nw w w1) := NW.out.trans k1
 have D1 : Hid (NdB w1 R _ tx up a n c) := ND.out.nw k1
 clear k1
 go_upto_if 32 with fail
 go_cut [4] (fun x wx => ∃ r : ByteArray, x = .string r ∧ w1 = wx)
 case first =>
  cases ok with
  | true =>
   go_wp2
   go_meet
   exact ⟨_, rfl, rfl⟩
  | false =>
   go_wp2
   go_meet
   exact ⟨_, rfl, rfl⟩
 case rest =>
  obtain ⟨r, rfl, rfl⟩ := hcut
  clear y0 y1 y2 y3
  obtain ⟨y0, y1, y2, y3, _, _⟩ := D1.out
  obtain ⟨X, hX⟩ : ∃ X, w1.alloc (.cells #[.string ⟨#[120]⟩, .string ⟨#[121]⟩, .string ⟨#[119, 105, 100, 116, 104]⟩, .string ⟨#[104, 101, 105, 103, 104, 116]⟩, .string r] 9) = X := ⟨_, rfl⟩
  have NX : Hid (Nw w1 X) := by show Nw _ _; rw [← hX]; exact (Below.refl _ _).alloc (Nat.le_refl _) _
  have TX : Hid (Txts X w1.heap.size [⟨#[120]⟩, ⟨#[121]⟩, ⟨#[119, 105, 100, 116, 104]⟩, ⟨#[104, 101, 105, 103, 104, 116]⟩, r]) := by show Txts _ _ _; rw [← hX]; exact txts_alloc [⟨#[120]⟩, ⟨#[121]⟩, ⟨#[119, 105, 100, 116, 104]⟩, ⟨#[104, 101, 105, 103, 104, 116]⟩, r] w1 9
  have LX : Hid (w1.heap.size < X.heap.size) := by show _ < _; rw [← hX]; simp
  have DX : Hid (NdB X R _ tx up a n c) := D1.out.nw NX.out
  have HX : Hid (_ = X) := hX
  clear hX
  go_wp2_with fail
  rw [HX.out]
  clear HX
  refine (slens_some X _ tx up a n c hn DX.out.2.2.2.2.1 w1.heap.size 5 [⟨#[120]⟩, ⟨#[121]⟩, ⟨#[119, 105, 100, 116, 104]⟩, ⟨#[104, 101, 105, 103, 104, 116]⟩, r] rfl (by omega) LX.out TX.out).mono ?_
  rintro e w2 ⟨v, l, ok2, rfl, hlen, hlm, hi, k2⟩
  have N2 : Hid (Nw w w2) := (N1.out.trans NX.out).trans k2
  have D2 : Hid (NdB w2 R _ tx up a n c) := DX.out.nw k2
  clear k2 NX TX LX DX
  clear y0 y1 y2 y3
  obtain ⟨y0, y1, y2, y3, _, _⟩ := D2.out
  cases ok2 with
  | false =>
   obtain ⟨va, vc, hv⟩ := few_form hi
   subst hv
   clear hi hlen
   go_wp2
   go_ret2
   exact LinesS.nil N2.out false
  | true =>
   obtain ⟨g, gc, hv, hg, hcell⟩ := ins_cells hi (hlen rfl) (by omega)
   subst hv
   have c0 := hcell 0 (by omega)
   have c1 := hcell 1 (by omega)
   have c2 := hcell 2 (by omega)
   have c3 := hcell 3 (by omega)
   have c4 := hcell 4 (by omega)
   generalize intAt l 0 = x0 at *
   generalize intAt l 1 = x1 at *
   generalize intAt l 2 = x2 at *
   generalize intAt l 3 = x3 at *
   generalize intAt l 4 = x4 at *
   clear hcell hi hlen hlm
   go_upto_region 8 with fail
   go_cut [59] (fun x wx => ∃ r : Bool, x = .bool r ∧ w2 = wx)
   case first =>
    cases t2 : decide (x2 < 0) with
    | true =>
     go_wp2
     go_meet
     exact ⟨_, rfl, rfl⟩
    | false =>
     cases t3 : decide (x3 < 0) with
     | true =>
      go_wp2
      go_meet
      exact ⟨_, rfl, rfl⟩
     | false =>
      cases t4 : decide (x4 < 0) with
      | true =>
       go_wp2
       go_meet
       exact ⟨_, rfl, rfl⟩
      | false =>
       go_wp2
       go_meet
       exact ⟨_, rfl, rfl⟩
   case rest =>
    obtain ⟨r, rfl, rfl⟩ := hcut
    cases r with
    | true =>
     go_wp2
     go_ret2
     exact LinesS.nil N2.out false
    | false =>
     go_upto_region 10 with fail
     go_cut [69] (fun x wx => ∃ r : Bool, x = .bool r ∧ w2 = wx)
     case first =>
      cases t2 : (x2 == 0) with
      | true =>
       go_wp2
       go_meet
       exact ⟨_, rfl, rfl⟩
      | false =>
       cases t3 : (x3 == 0) with
       | true =>
        go_wp2
        go_meet
        exact ⟨_, rfl, rfl⟩
       | false =>
        go_wp2
        go_meet
        exact ⟨_, rfl, rfl⟩
     case rest =>
      obtain ⟨r, rfl, rfl⟩ := hcut
      cases r with
      | true =>
       go_wp2
       go_ret2
       exact LinesS.nil N2.out true
      | false =>
       have HG : Hid (g < w2.heap.size) := hg
       have HC : Hid (w2.cell? ⟨g, 0, none⟩ = some (.int .i64 x0) ∧ w2.cell? ⟨g, 1, none⟩ = some (.int .i64 x1) ∧ w2.cell? ⟨g, 2, none⟩ = some (.int .i64 x2) ∧ w2.cell? ⟨g, 3, none⟩ = some (.int .i64 x3) ∧ w2.cell? ⟨g, 4, none⟩ = some (.int .i64 x4)) := ⟨c0, c1, c2, c3, c4⟩
       have K0 : Hid (Nw w2 w2) := Below.refl _ _
       clear hg y0 y1 y2 y3
       go_upto_region 12 with fail
       go_region_held3 (fun w' => w'.cell? ⟨g, 0, none⟩ = some (.int .i64 x0) ∧ w'.cell? ⟨g, 1, none⟩ = some (.int .i64 x1) ∧ w'.cell? ⟨g, 2, none⟩ = some (.int .i64 x2) ∧ w'.cell? ⟨g, 3, none⟩ = some (.int .i64 x3) ∧ w'.cell? ⟨g, 4, none⟩ = some (.int .i64 x4))
        (first | exact HC.out | exact keep5 HG.out (Nw.trans (nw_drw _) K0.out) HC.out | exact keep5 HG.out K0.out HC.out)
        (first | (go_at_call 34; refine (rect_some x0 x1 x2 x3 x4 _).mono ?_; rintro e w' ⟨pa, pc, ps, cl, okl, rfl, hps, hpl, hk⟩; replace K0 := (show Hid (Nw w2 w') from Nw.trans (nw_drw _) hk); have HPS : Hid (PtsF w.heap.size w' pa ps) := PtsF.mono hps (Below.size (Nw.trans N2.out (nw_drw _))); clear hk hps) | (go_at_call 109; refine (one_lines w _ pa pc ps cl okl hpl HPS.out (N2.out.trans K0.out)).mono ?_; rintro e w5 ⟨⟨la, lc, ll, okk, rfl, hll, hl1, hl2, hk5⟩, hk6⟩; replace K0 := (show Hid (Nw w2 w5) from Nw.trans K0.out hk6); have HLL : Hid (LinesS w (.returned (.tuple #[.slice la ll.length lc, .bool okk])) w5) := ⟨la, lc, ll, okk, rfl, hll, hl1, hl2, hk5⟩; clear hll hl1 hl2 hk5 hk6))
       go_wp2
       go_ret2
       exact HLL.out
theorem keep4 {w w' : World} {g : Nat} {x0 x1 x2 x3 : Int} (hg : g < w.heap.size) (k : Nw w w') (h : w.cell? ⟨g, 0, none⟩ = some (.int .i64 x0) ∧ w.cell? ⟨g, 1, none⟩ = some (.int .i64 x1) ∧ w.cell? ⟨g, 2, none⟩ = some (.int .i64 x2) ∧ w.cell? ⟨g, 3, none⟩ = some (.int .i64 x3)) : w'.cell? ⟨g, 0, none⟩ = some (.int .i64 x0) ∧ w'.cell? ⟨g, 1, none⟩ = some (.int .i64 x1) ∧ w'.cell? ⟨g, 2, none⟩ = some (.int .i64 x2) ∧ w'.cell? ⟨g, 3, none⟩ = some (.int .i64 x3) := by
 obtain ⟨h0, h1, h2, h3⟩ := h
 exact ⟨((bcell k).1 _ _ hg).trans h0, ((bcell k).1 _ _ hg).trans h1, ((bcell k).1 _ _ hg).trans h2, ((bcell k).1 _ _ hg).trans h3⟩
set_option maxRecDepth 100000 in
set_option maxHeartbeats 8000000 in
theorem shape_circle (w : World) (nm tx : ByteArray) (up : Int) (a : Option Addr) (n c : Nat) (hn : n ≤ 1000) (hr : AtR w a n) (hnm : nm = ⟨#[99, 105, 114, 99, 108, 101]⟩) :
  Calls Try.prog 84 #[.agg #[.string nm, .int .i64 up, .slice a n c, .string tx]] w fun e w' => LinesS w e w' := by
 subst hnm
 obtain ⟨W, hW⟩ : ∃ W, w.alloc (.cells #[.string ⟨#[99, 105, 114, 99, 108, 101]⟩, .int .i64 up, .slice a n c, .string tx] 131) = W := ⟨_, rfl⟩
 have NW : Hid (Nw w W) := by show Nw _ _; rw [← hW]; exact (Below.refl _ _).alloc (Nat.le_refl _) _
 have ND : Hid (NdB W w.heap.size ⟨#[99, 105, 114, 99, 108, 101]⟩ tx up a n c) := by show NdB _ _ _ _ _ _ _ _; rw [← hW]; exact NdB.new w _ tx up a n c _ hr
 have HW : Hid (_ = W) := hW
 obtain ⟨R, hR⟩ : ∃ R, w.heap.size = R := ⟨_, rfl⟩
 have HR : Hid (w.heap.size = R) := hR
 rw [hR] at ND
 clear hW hr hR
 go_enter Try.func84, Try.ntmps84
 go_upto_region 1 with fail
 rw [HW.out, HR.out]
 clear HW
 obtain ⟨y0, y1, y2, y3, _, _⟩ := ND.out
 obtain ⟨X, hX⟩ : ∃ Q9, W.alloc (.cells #[.string ⟨#[99, 120]⟩, .string ⟨#[99, 121]⟩, .string ⟨#[114]⟩, .string ⟨#[114]⟩] 9) = Q9 := ⟨_, rfl⟩
 have NX : Hid (Nw W X) := by show Nw _ _; rw [← hX]; exact (Below.refl _ _).alloc (Nat.le_refl _) _
 have TX : Hid (Txts X W.heap.size [⟨#[99, 120]⟩, ⟨#[99, 121]⟩, ⟨#[114]⟩, ⟨#[114]⟩]) := by show Txts _ _ _; rw [← hX]; exact txts_alloc [⟨#[99, 120]⟩, ⟨#[99, 121]⟩, ⟨#[114]⟩, ⟨#[114]⟩] W 9
 have LX : Hid (W.heap.size < X.heap.size) := by show _ < _; rw [← hX]; simp
 have DX : Hid (NdB X R _ tx up a n c) := ND.out.nw NX.out
 have HX : Hid (_ = X) := hX
 clear hX
 go_upto_region 16 with fail
 rw [HX.out]
 clear HX
 clear y0 y1 y2 y3
 obtain ⟨y0, y1, y2, y3, _, _⟩ := DX.out
 go_wp2_with fail
 refine (slens_some X _ tx up a n c hn DX.out.2.2.2.2.1 W.heap.size 4 [⟨#[99, 120]⟩, ⟨#[99, 121]⟩, ⟨#[114]⟩, ⟨#[114]⟩] rfl (by omega) LX.out TX.out).mono ?_
 rintro e w2 ⟨v, l, ok2, rfl, hlen, hlm, hi, k2⟩
 have N2 : Hid (Nw w w2) := (NW.out.trans NX.out).trans k2
 have D2 : Hid (NdB w2 R _ tx up a n c) := DX.out.nw k2
 clear k2
 clear y0 y1 y2 y3
 obtain ⟨y0, y1, y2, y3, _, _⟩ := D2.out
 cases ok2 with
 | false =>
  obtain ⟨va, vc, hv⟩ := few_form hi
  subst hv
  clear hi hlen
  go_wp2
  go_ret2
  exact LinesS.nil N2.out false
 | true =>
  obtain ⟨g, gc, hv, hg, hcell⟩ := ins_cells hi (hlen rfl) (by omega)
  subst hv
  have c0 := hcell 0 (by omega)
  have c1 := hcell 1 (by omega)
  have c2 := hcell 2 (by omega)
  have c3 := hcell 3 (by omega)
  generalize intAt l 0 = x0 at *
  generalize intAt l 1 = x1 at *
  generalize intAt l 2 = x2 at *
  generalize intAt l 3 = x3 at *
  clear hcell hi hlen hlm
  go_upto_region 19 with fail
  go_cut [118] (fun x wx => ∃ r : Bool, x = .bool r ∧ w2 = wx)
  case first =>
   cases t2 : decide (x2 < 0) with
   | true =>
    go_wp2
    go_meet
    exact ⟨_, rfl, rfl⟩
   | false =>
    cases t3 : decide (x3 < 0) with
    | true =>
     go_wp2
     go_meet
     exact ⟨_, rfl, rfl⟩
    | false =>
     go_wp2
     go_meet
     exact ⟨_, rfl, rfl⟩
  case rest =>
   obtain ⟨r, rfl, rfl⟩ := hcut
   cases r with
   | true =>
    go_wp2
    go_ret2
    exact LinesS.nil N2.out false
   | false =>
    go_upto_region 21 with fail
    go_cut [128] (fun x wx => ∃ r : Bool, x = .bool r ∧ w2 = wx)
    case first =>
     cases t2 : (x2 == 0) with
     | true =>
      go_wp2
      go_meet
      exact ⟨_, rfl, rfl⟩
     | false =>
      cases t3 : (x3 == 0) with
      | true =>
       go_wp2
       go_meet
       exact ⟨_, rfl, rfl⟩
      | false =>
       go_wp2
       go_meet
       exact ⟨_, rfl, rfl⟩
    case rest =>
     obtain ⟨r, rfl, rfl⟩ := hcut
     cases r with
     | true =>
      go_wp2
      go_ret2
      exact LinesS.nil N2.out true
     | false =>
      have HG : Hid (g < w2.heap.size) := hg
      have HC : Hid (w2.cell? ⟨g, 0, none⟩ = some (.int .i64 x0) ∧ w2.cell? ⟨g, 1, none⟩ = some (.int .i64 x1) ∧ w2.cell? ⟨g, 2, none⟩ = some (.int .i64 x2) ∧ w2.cell? ⟨g, 3, none⟩ = some (.int .i64 x3)) := ⟨c0, c1, c2, c3⟩
      have K0 : Hid (Nw w2 w2) := Below.refl _ _
      clear hg y0 y1 y2 y3
      go_upto_region 23 with fail
      go_region_held3 (fun w' => w'.cell? ⟨g, 0, none⟩ = some (.int .i64 x0) ∧ w'.cell? ⟨g, 1, none⟩ = some (.int .i64 x1) ∧ w'.cell? ⟨g, 2, none⟩ = some (.int .i64 x2) ∧ w'.cell? ⟨g, 3, none⟩ = some (.int .i64 x3))
       (first | exact HC.out | exact keep4 HG.out (Nw.trans (nw_drw _) K0.out) HC.out | exact keep4 HG.out K0.out HC.out)
       (first | (go_at_call 29; refine (elli_some x0 x1 x2 x3 _).mono ?_; rintro e w' ⟨pa, pc, ps, cl, okl, rfl, hps, hpl, hk⟩; replace K0 := (show Hid (Nw w2 w') from Nw.trans (nw_drw _) hk); have HPS : Hid (PtsF w.heap.size w' pa ps) := PtsF.mono hps (Below.size (Nw.trans N2.out (nw_drw _))); clear hk hps) | (go_at_call 109; refine (one_lines w _ pa pc ps cl okl hpl HPS.out (N2.out.trans K0.out)).mono ?_; rintro e w5 ⟨⟨la, lc, ll, okk, rfl, hll, hl1, hl2, hk5⟩, hk6⟩; replace K0 := (show Hid (Nw w2 w5) from Nw.trans K0.out hk6); have HLL : Hid (LinesS w (.returned (.tuple #[.slice la ll.length lc, .bool okk])) w5) := ⟨la, lc, ll, okk, rfl, hll, hl1, hl2, hk5⟩; clear hll hl1 hl2 hk5 hk6))
      go_wp2
      go_ret2
      exact HLL.out
set_option maxRecDepth 100000 in
set_option maxHeartbeats 8000000 in
theorem shape_ellipse (w : World) (nm tx : ByteArray) (up : Int) (a : Option Addr) (n c : Nat) (hn : n ≤ 1000) (hr : AtR w a n) (hnm : nm = ⟨#[101, 108, 108, 105, 112, 115, 101]⟩) :
  Calls Try.prog 84 #[.agg #[.string nm, .int .i64 up, .slice a n c, .string tx]] w fun e w' => LinesS w e w' := by
 subst hnm
 obtain ⟨W, hW⟩ : ∃ W, w.alloc (.cells #[.string ⟨#[101, 108, 108, 105, 112, 115, 101]⟩, .int .i64 up, .slice a n c, .string tx] 131) = W := ⟨_, rfl⟩
 have NW : Hid (Nw w W) := by show Nw _ _; rw [← hW]; exact (Below.refl _ _).alloc (Nat.le_refl _) _
 have ND : Hid (NdB W w.heap.size ⟨#[101, 108, 108, 105, 112, 115, 101]⟩ tx up a n c) := by show NdB _ _ _ _ _ _ _ _; rw [← hW]; exact NdB.new w _ tx up a n c _ hr
 have HW : Hid (_ = W) := hW
 obtain ⟨R, hR⟩ : ∃ R, w.heap.size = R := ⟨_, rfl⟩
 have HR : Hid (w.heap.size = R) := hR
 rw [hR] at ND
 clear hW hr hR
 go_enter Try.func84, Try.ntmps84
 go_upto_region 1 with fail
 rw [HW.out, HR.out]
 clear HW
 obtain ⟨y0, y1, y2, y3, _, _⟩ := ND.out
 obtain ⟨X, hX⟩ : ∃ Q9, W.alloc (.cells #[.string ⟨#[99, 120]⟩, .string ⟨#[99, 121]⟩, .string ⟨#[114]⟩, .string ⟨#[114]⟩] 9) = Q9 := ⟨_, rfl⟩
 have NX : Hid (Nw W X) := by show Nw _ _; rw [← hX]; exact (Below.refl _ _).alloc (Nat.le_refl _) _
 have TX : Hid (Txts X W.heap.size [⟨#[99, 120]⟩, ⟨#[99, 121]⟩, ⟨#[114]⟩, ⟨#[114]⟩]) := by show Txts _ _ _; rw [← hX]; exact txts_alloc [⟨#[99, 120]⟩, ⟨#[99, 121]⟩, ⟨#[114]⟩, ⟨#[114]⟩] W 9
 have LX : Hid (W.heap.size < X.heap.size) := by show _ < _; rw [← hX]; simp
 have DX : Hid (NdB X R _ tx up a n c) := ND.out.nw NX.out
 have HX : Hid (_ = X) := hX
 clear hX
 go_upto_region 16 with fail
 rw [HX.out]
 clear HX
 clear y0 y1 y2 y3
 obtain ⟨y0, y1, y2, y3, _, _⟩ := DX.out
 obtain ⟨Y, hY⟩ : ∃ Q9, X.alloc (.cells #[.string ⟨#[99, 120]⟩, .string ⟨#[99, 121]⟩, .string ⟨#[114, 120]⟩, .string ⟨#[114, 121]⟩] 9) = Q9 := ⟨_, rfl⟩
 have NY : Hid (Nw X Y) := by show Nw _ _; rw [← hY]; exact (Below.refl _ _).alloc (Nat.le_refl _) _
 have TY : Hid (Txts Y X.heap.size [⟨#[99, 120]⟩, ⟨#[99, 121]⟩, ⟨#[114, 120]⟩, ⟨#[114, 121]⟩]) := by show Txts _ _ _; rw [← hY]; exact txts_alloc [⟨#[99, 120]⟩, ⟨#[99, 121]⟩, ⟨#[114, 120]⟩, ⟨#[114, 121]⟩] X 9
 have LY : Hid (X.heap.size < Y.heap.size) := by show _ < _; rw [← hY]; simp
 have DY : Hid (NdB Y R _ tx up a n c) := DX.out.nw NY.out
 have HY : Hid (_ = Y) := hY
 clear hY
 go_upto_region 18 with fail
 rw [HY.out]
 clear HY
 clear y0 y1 y2 y3
 obtain ⟨y0, y1, y2, y3, _, _⟩ := DY.out
 go_wp2_with fail
 refine (slens_some Y _ tx up a n c hn DY.out.2.2.2.2.1 X.heap.size 4 [⟨#[99, 120]⟩, ⟨#[99, 121]⟩, ⟨#[114, 120]⟩, ⟨#[114, 121]⟩] rfl (by omega) LY.out TY.out).mono ?_
 rintro e w2 ⟨v, l, ok2, rfl, hlen, hlm, hi, k2⟩
 have N2 : Hid (Nw w w2) := ((NW.out.trans NX.out).trans NY.out).trans k2
 have D2 : Hid (NdB w2 R _ tx up a n c) := DY.out.nw k2
 clear k2
 clear y0 y1 y2 y3
 obtain ⟨y0, y1, y2, y3, _, _⟩ := D2.out
 cases ok2 with
 | false =>
  obtain ⟨va, vc, hv⟩ := few_form hi
  subst hv
  clear hi hlen
  go_wp2
  go_ret2
  exact LinesS.nil N2.out false
 | true =>
  obtain ⟨g, gc, hv, hg, hcell⟩ := ins_cells hi (hlen rfl) (by omega)
  subst hv
  have c0 := hcell 0 (by omega)
  have c1 := hcell 1 (by omega)
  have c2 := hcell 2 (by omega)
  have c3 := hcell 3 (by omega)
  generalize intAt l 0 = x0 at *
  generalize intAt l 1 = x1 at *
  generalize intAt l 2 = x2 at *
  generalize intAt l 3 = x3 at *
  clear hcell hi hlen hlm
  go_upto_region 19 with fail
  go_cut [118] (fun x wx => ∃ r : Bool, x = .bool r ∧ w2 = wx)
  case first =>
   cases t2 : decide (x2 < 0) with
   | true =>
    go_wp2
    go_meet
    exact ⟨_, rfl, rfl⟩
   | false =>
    cases t3 : decide (x3 < 0) with
    | true =>
     go_wp2
     go_meet
     exact ⟨_, rfl, rfl⟩
    | false =>
     go_wp2
     go_meet
     exact ⟨_, rfl, rfl⟩
  case rest =>
   obtain ⟨r, rfl, rfl⟩ := hcut
   cases r with
   | true =>
    go_wp2
    go_ret2
    exact LinesS.nil N2.out false
   | false =>
    go_upto_region 21 with fail
    go_cut [128] (fun x wx => ∃ r : Bool, x = .bool r ∧ w2 = wx)
    case first =>
     cases t2 : (x2 == 0) with
     | true =>
      go_wp2
      go_meet
      exact ⟨_, rfl, rfl⟩
     | false =>
      cases t3 : (x3 == 0) with
      | true =>
       go_wp2
       go_meet
       exact ⟨_, rfl, rfl⟩
      | false =>
       go_wp2
       go_meet
       exact ⟨_, rfl, rfl⟩
    case rest =>
     obtain ⟨r, rfl, rfl⟩ := hcut
     cases r with
     | true =>
      go_wp2
      go_ret2
      exact LinesS.nil N2.out true
     | false =>
      have HG : Hid (g < w2.heap.size) := hg
      have HC : Hid (w2.cell? ⟨g, 0, none⟩ = some (.int .i64 x0) ∧ w2.cell? ⟨g, 1, none⟩ = some (.int .i64 x1) ∧ w2.cell? ⟨g, 2, none⟩ = some (.int .i64 x2) ∧ w2.cell? ⟨g, 3, none⟩ = some (.int .i64 x3)) := ⟨c0, c1, c2, c3⟩
      have K0 : Hid (Nw w2 w2) := Below.refl _ _
      clear hg y0 y1 y2 y3
      go_upto_region 23 with fail
      go_region_held3 (fun w' => w'.cell? ⟨g, 0, none⟩ = some (.int .i64 x0) ∧ w'.cell? ⟨g, 1, none⟩ = some (.int .i64 x1) ∧ w'.cell? ⟨g, 2, none⟩ = some (.int .i64 x2) ∧ w'.cell? ⟨g, 3, none⟩ = some (.int .i64 x3))
       (first | exact HC.out | exact keep4 HG.out (Nw.trans (nw_drw _) K0.out) HC.out | exact keep4 HG.out K0.out HC.out)
       (first | (go_at_call 29; refine (elli_some x0 x1 x2 x3 _).mono ?_; rintro e w' ⟨pa, pc, ps, cl, okl, rfl, hps, hpl, hk⟩; replace K0 := (show Hid (Nw w2 w') from Nw.trans (nw_drw _) hk); have HPS : Hid (PtsF w.heap.size w' pa ps) := PtsF.mono hps (Below.size (Nw.trans N2.out (nw_drw _))); clear hk hps) | (go_at_call 109; refine (one_lines w _ pa pc ps cl okl hpl HPS.out (N2.out.trans K0.out)).mono ?_; rintro e w5 ⟨⟨la, lc, ll, okk, rfl, hll, hl1, hl2, hk5⟩, hk6⟩; replace K0 := (show Hid (Nw w2 w5) from Nw.trans K0.out hk6); have HLL : Hid (LinesS w (.returned (.tuple #[.slice la ll.length lc, .bool okk])) w5) := ⟨la, lc, ll, okk, rfl, hll, hl1, hl2, hk5⟩; clear hll hl1 hl2 hk5 hk6))
      go_wp2
      go_ret2
      exact HLL.out
set_option maxRecDepth 100000 in
set_option maxHeartbeats 8000000 in
theorem shape_line (w : World) (nm tx : ByteArray) (up : Int) (a : Option Addr) (n c : Nat) (hn : n ≤ 1000) (hr : AtR w a n) (hnm : nm = ⟨#[108, 105, 110, 101]⟩) :
  Calls Try.prog 84 #[.agg #[.string nm, .int .i64 up, .slice a n c, .string tx]] w fun e w' => LinesS w e w' := by
 subst hnm
 obtain ⟨W, hW⟩ : ∃ W, w.alloc (.cells #[.string ⟨#[108, 105, 110, 101]⟩, .int .i64 up, .slice a n c, .string tx] 131) = W := ⟨_, rfl⟩
 have NW : Hid (Nw w W) := by show Nw _ _; rw [← hW]; exact (Below.refl _ _).alloc (Nat.le_refl _) _
 have ND : Hid (NdB W w.heap.size ⟨#[108, 105, 110, 101]⟩ tx up a n c) := by show NdB _ _ _ _ _ _ _ _; rw [← hW]; exact NdB.new w _ tx up a n c _ hr
 have HW : Hid (_ = W) := hW
 obtain ⟨R, hR⟩ : ∃ R, w.heap.size = R := ⟨_, rfl⟩
 have HR : Hid (w.heap.size = R) := hR
 rw [hR] at ND
 clear hW hr hR
 go_enter Try.func84, Try.ntmps84
 go_upto_region 1 with fail
 rw [HW.out, HR.out]
 clear HW
 obtain ⟨y0, y1, y2, y3, _, _⟩ := ND.out
 obtain ⟨X, hX⟩ : ∃ X, W.alloc (.cells #[.string ⟨#[120, 49]⟩, .string ⟨#[121, 49]⟩, .string ⟨#[120, 50]⟩, .string ⟨#[121, 50]⟩] 9) = X := ⟨_, rfl⟩
 have NX : Hid (Nw W X) := by show Nw _ _; rw [← hX]; exact (Below.refl _ _).alloc (Nat.le_refl _) _
 have TX : Hid (Txts X W.heap.size [⟨#[120, 49]⟩, ⟨#[121, 49]⟩, ⟨#[120, 50]⟩, ⟨#[121, 50]⟩]) := by show Txts _ _ _; rw [← hX]; exact txts_alloc [⟨#[120, 49]⟩, ⟨#[121, 49]⟩, ⟨#[120, 50]⟩, ⟨#[121, 50]⟩] W 9
 have LX : Hid (W.heap.size < X.heap.size) := by show _ < _; rw [← hX]; simp
 have DX : Hid (NdB X R _ tx up a n c) := ND.out.nw NX.out
 have HX : Hid (_ = X) := hX
 clear hX
 go_wp2_with fail
 rw [HX.out]
 clear HX
 refine (slens_some X _ tx up a n c hn DX.out.2.2.2.2.1 W.heap.size 4 [⟨#[120, 49]⟩, ⟨#[121, 49]⟩, ⟨#[120, 50]⟩, ⟨#[121, 50]⟩] rfl (by omega) LX.out TX.out).mono ?_
 rintro e w2 ⟨v, l, ok2, rfl, hlen, hlm, hi, k2⟩
 have N2 : Hid (Nw w w2) := (NW.out.trans NX.out).trans k2
 have D2 : Hid (NdB w2 R _ tx up a n c) := DX.out.nw k2
 clear k2 NX TX LX DX
 obtain ⟨va, vc, hv, hints⟩ := ins_some hi
 subst hv
 have HI : Hid (Ints w2 va l) := hints
 clear hi hints hlen
 go_wp2_with fail
 refine (pairs_some w2 va vc l (by omega) HI.out).mono ?_
 rintro e w3 ⟨pv, pl, rfl, ho, hpl, k3⟩
 obtain ⟨pa, pc, hpv, hps⟩ := ownp_ptsF ho
 subst hpv
 have HPS : Hid (PtsF w.heap.size w3 pa pl) := PtsF.mono hps (Below.size N2.out)
 have N3 : Hid (Nw w w3) := N2.out.trans k3
 clear ho hps k3
 go_wp2_with fail
 refine (one_lines w w3 pa pc pl false ok2 (by omega) HPS.out N3.out).mono ?_
 rintro e w5 ⟨⟨la, lc, ll, okk, rfl, hll, hl1, hl2, hk5⟩, hk6⟩
 have HLL : Hid (LinesS w (.returned (.tuple #[.slice la ll.length lc, .bool okk])) w5) := ⟨la, lc, ll, okk, rfl, hll, hl1, hl2, hk5⟩
 clear hll hl1 hl2 hk5 hk6
 go_wp2
 go_ret2
 exact HLL.out
set_option maxRecDepth 100000 in
set_option maxHeartbeats 8000000 in
theorem shape_none (w : World) (nm tx : ByteArray) (up : Int) (a : Option Addr) (n c : Nat) (hn : n ≤ 1000) (hr : AtR w a n) (h0 : nm ≠ ⟨#[114, 101, 99, 116]⟩) (h1 : nm ≠ ⟨#[99, 105, 114, 99, 108, 101]⟩) (h2 : nm ≠ ⟨#[101, 108, 108, 105, 112, 115, 101]⟩) (h3 : nm ≠ ⟨#[108, 105, 110, 101]⟩) (h4 : nm ≠ ⟨#[112, 111, 108, 121, 108, 105, 110, 101]⟩) (h5 : nm ≠ ⟨#[112, 111, 108, 121, 103, 111, 110]⟩) (h6 : nm ≠ ⟨#[112, 97, 116, 104]⟩) :
  Calls Try.prog 84 #[.agg #[.string nm, .int .i64 up, .slice a n c, .string tx]] w fun e w' => LinesS w e w' := by
 have q0 := beqn nm [114, 101, 99, 116] h0
 have q1 := beqn nm [99, 105, 114, 99, 108, 101] h1
 have q2 := beqn nm [101, 108, 108, 105, 112, 115, 101] h2
 have q3 := beqn nm [108, 105, 110, 101] h3
 have q4 := beqn nm [112, 111, 108, 121, 108, 105, 110, 101] h4
 have q5 := beqn nm [112, 111, 108, 121, 103, 111, 110] h5
 have q6 := beqn nm [112, 97, 116, 104] h6
 clear h0 h1 h2 h3 h4 h5 h6
 obtain ⟨W, hW⟩ : ∃ W, w.alloc (.cells #[.string nm, .int .i64 up, .slice a n c, .string tx] 131) = W := ⟨_, rfl⟩
 have NW : Hid (Nw w W) := by show Nw _ _; rw [← hW]; exact (Below.refl _ _).alloc (Nat.le_refl _) _
 have ND : Hid (NdB W w.heap.size nm tx up a n c) := by show NdB _ _ _ _ _ _ _ _; rw [← hW]; exact NdB.new w _ tx up a n c _ hr
 have HW : Hid (_ = W) := hW
 obtain ⟨R, hR⟩ : ∃ R, w.heap.size = R := ⟨_, rfl⟩
 have HR : Hid (w.heap.size = R) := hR
 rw [hR] at ND
 clear hW hr hR
 go_enter Try.func84, Try.ntmps84
 go_upto_region 1 with fail
 rw [HW.out, HR.out]
 clear HW
 obtain ⟨y0, y1, y2, y3, _, _⟩ := ND.out
 go_wp2
 go_ret2
 exact LinesS.nil NW.out false
set_option maxRecDepth 100000 in
set_option maxHeartbeats 8000000 in
theorem shape_polyline (w : World) (nm tx : ByteArray) (up : Int) (a : Option Addr) (n c : Nat) (hn : n ≤ 1000) (hr : AtR w a n) (hnm : nm = ⟨#[112, 111, 108, 121, 108, 105, 110, 101]⟩) :
  Calls Try.prog 84 #[.agg #[.string nm, .int .i64 up, .slice a n c, .string tx]] w fun e w' => LinesS w e w' := by
 subst hnm
 obtain ⟨W, hW⟩ : ∃ W, w.alloc (.cells #[.string ⟨#[112, 111, 108, 121, 108, 105, 110, 101]⟩, .int .i64 up, .slice a n c, .string tx] 131) = W := ⟨_, rfl⟩
 have NW : Hid (Nw w W) := by show Nw _ _; rw [← hW]; exact (Below.refl _ _).alloc (Nat.le_refl _) _
 have ND : Hid (NdB W w.heap.size ⟨#[112, 111, 108, 121, 108, 105, 110, 101]⟩ tx up a n c) := by show NdB _ _ _ _ _ _ _ _; rw [← hW]; exact NdB.new w _ tx up a n c _ hr
 have HW : Hid (_ = W) := hW
 obtain ⟨R, hR⟩ : ∃ R, w.heap.size = R := ⟨_, rfl⟩
 have HR : Hid (w.heap.size = R) := hR
 rw [hR] at ND
 clear hW hr hR
 go_enter Try.func84, Try.ntmps84
 go_upto_region 1 with fail
 rw [HW.out, HR.out]
 clear HW
 obtain ⟨y0, y1, y2, y3, _, _⟩ := ND.out
 go_wp2_with fail
 refine (sattr_some W _ tx ⟨#[112, 111, 105, 110, 116, 115]⟩ up a n c hn ND.out.2.2.2.2.1).mono ?_
 rintro e w1 ⟨y, ok, rfl, hy, k1⟩
 have N1 : Hid (Nw w w1) := NW.out.trans k1
 have D1 : Hid (NdB w1 R _ tx up a n c) := ND.out.nw k1
 clear k1
 clear y0 y1 y2 y3
 obtain ⟨y0, y1, y2, y3, _, _⟩ := D1.out
 go_wp2_with fail
 refine (trim_some y _ (by omega)).mono ?_
 rintro e w' ⟨t, rfl, ht, hq⟩
 have hq2 := hq.symm; clear hq; subst hq2
 by_cases hz : t.size = 0
 ·have dz : ((t.size : Int) == 0) = true := by rw [hz]; rfl
  go_wp2
  go_ret2
  exact LinesS.nil N1.out true
 ·have dz : ((t.size : Int) == 0) = false := by rw [beq_eq_false_iff_ne]; omega
  go_wp2_with fail
  refine (rnums_few y _ (by omega)).mono ?_
  rintro e w2 ⟨v, l, ok2, rfl, hlm, hi, k2⟩
  have N2 : Hid (Nw w w2) := N1.out.trans k2
  have D2 : Hid (NdB w2 R _ tx up a n c) := D1.out.nw k2
  obtain ⟨va, vc, hv, hints⟩ := ins_some hi
  subst hv
  have HI : Hid (Ints w2 va l) := hints
  clear hi hints k2 dz hz
  go_upto_region 33 with fail
  go_cut [186] (fun x wx => ∃ r : Bool, x = .bool r ∧ w2 = wx)
  case first =>
   cases ok2 with
   | false =>
    go_wp2
    go_meet
    exact ⟨_, rfl, rfl⟩
   | true =>
    cases h2 : ((l.length : Int) % 2 == 1) with
    | true =>
     go_wp2
     go_meet
     exact ⟨_, rfl, rfl⟩
    | false =>
     go_wp2
     go_meet
     exact ⟨_, rfl, rfl⟩
  case rest =>
   obtain ⟨r, rfl, rfl⟩ := hcut
   cases r with
   | true =>
    go_wp2
    go_ret2
    exact LinesS.nil N2.out false
   | false =>
    by_cases h4 : l.length < 4
    ·have d4 : decide ((l.length : Int) < 4) = true := decide_eq_true (by omega)
     go_wp2
     go_ret2
     exact LinesS.nil N2.out true
    ·have d4 : decide ((l.length : Int) < 4) = false := decide_eq_false (by omega)
     clear y0 y1 y2 y3
     have HS : Hid (w2.cell? ⟨R, 0, none⟩ = some (.string ⟨#[112, 111, 108, 121, 108, 105, 110, 101]⟩)) := D2.out.1
     have HRS : Hid (R < w2.heap.size) := D2.out.2.2.2.2.2
     have K0 : Hid (Nw w2 w2) := Below.refl _ _
     go_upto_region 37 with fail
     go_region_held3 (fun w' => w'.cell? ⟨R, 0, none⟩ = some (.string ⟨#[112, 111, 108, 121, 108, 105, 110, 101]⟩))
      (first | exact HS.out | exact ((bcell (Nw.trans K0.out ((Below.refl _ _).alloc (Nat.le_refl _) _))).1 R 0 HRS.out).trans HS.out | exact ((bcell (Nw.trans (nw_drw _) K0.out)).1 R 0 HRS.out).trans HS.out | exact ((bcell K0.out).1 R 0 HRS.out).trans HS.out)
      (first | (go_at_call 110; refine (pairs_some _ va vc l (by omega) (HI.out.nw (nw_drw _))).mono ?_; rintro e w' ⟨pv, pl, rfl, ho, hpl, k3⟩; obtain ⟨pa, pc, hpv, hps⟩ := ownp_ptsF ho; subst hpv; have HPS : Hid (PtsF w.heap.size w' pa pl) := PtsF.mono hps (Below.size (Nw.trans N2.out (nw_drw _))); replace K0 := (show Hid (Nw w2 w') from Nw.trans (nw_drw _) k3); clear ho hps k3))
     go_wp2
     go_ret2
     exact ⟨_, 1, [⟨pl, _⟩], true, rfl, lines_newly _ _ pa pc pl _ (Below.size (N2.out.trans K0.out)) HPS.out _, by simp, by simp [manyL]; omega, (N2.out.trans K0.out).trans ((Below.refl _ _).alloc (Nat.le_refl _) _)⟩
set_option maxRecDepth 100000 in
set_option maxHeartbeats 8000000 in
theorem shape_polygon (w : World) (nm tx : ByteArray) (up : Int) (a : Option Addr) (n c : Nat) (hn : n ≤ 1000) (hr : AtR w a n) (hnm : nm = ⟨#[112, 111, 108, 121, 103, 111, 110]⟩) :
  Calls Try.prog 84 #[.agg #[.string nm, .int .i64 up, .slice a n c, .string tx]] w fun e w' => LinesS w e w' := by
 subst hnm
 obtain ⟨W, hW⟩ : ∃ W, w.alloc (.cells #[.string ⟨#[112, 111, 108, 121, 103, 111, 110]⟩, .int .i64 up, .slice a n c, .string tx] 131) = W := ⟨_, rfl⟩
 have NW : Hid (Nw w W) := by show Nw _ _; rw [← hW]; exact (Below.refl _ _).alloc (Nat.le_refl _) _
 have ND : Hid (NdB W w.heap.size ⟨#[112, 111, 108, 121, 103, 111, 110]⟩ tx up a n c) := by show NdB _ _ _ _ _ _ _ _; rw [← hW]; exact NdB.new w _ tx up a n c _ hr
 have HW : Hid (_ = W) := hW
 obtain ⟨R, hR⟩ : ∃ R, w.heap.size = R := ⟨_, rfl⟩
 have HR : Hid (w.heap.size = R) := hR
 rw [hR] at ND
 clear hW hr hR
 go_enter Try.func84, Try.ntmps84
 go_upto_region 1 with fail
 rw [HW.out, HR.out]
 clear HW
 obtain ⟨y0, y1, y2, y3, _, _⟩ := ND.out
 go_wp2_with fail
 refine (sattr_some W _ tx ⟨#[112, 111, 105, 110, 116, 115]⟩ up a n c hn ND.out.2.2.2.2.1).mono ?_
 rintro e w1 ⟨y, ok, rfl, hy, k1⟩
 have N1 : Hid (Nw w w1) := NW.out.trans k1
 have D1 : Hid (NdB w1 R _ tx up a n c) := ND.out.nw k1
 clear k1
 clear y0 y1 y2 y3
 obtain ⟨y0, y1, y2, y3, _, _⟩ := D1.out
 go_wp2_with fail
 refine (trim_some y _ (by omega)).mono ?_
 rintro e w' ⟨t, rfl, ht, hq⟩
 have hq2 := hq.symm; clear hq; subst hq2
 by_cases hz : t.size = 0
 ·have dz : ((t.size : Int) == 0) = true := by rw [hz]; rfl
  go_wp2
  go_ret2
  exact LinesS.nil N1.out true
 ·have dz : ((t.size : Int) == 0) = false := by rw [beq_eq_false_iff_ne]; omega
  go_wp2_with fail
  refine (rnums_few y _ (by omega)).mono ?_
  rintro e w2 ⟨v, l, ok2, rfl, hlm, hi, k2⟩
  have N2 : Hid (Nw w w2) := N1.out.trans k2
  have D2 : Hid (NdB w2 R _ tx up a n c) := D1.out.nw k2
  obtain ⟨va, vc, hv, hints⟩ := ins_some hi
  subst hv
  have HI : Hid (Ints w2 va l) := hints
  clear hi hints k2 dz hz
  go_upto_region 33 with fail
  go_cut [186] (fun x wx => ∃ r : Bool, x = .bool r ∧ w2 = wx)
  case first =>
   cases ok2 with
   | false =>
    go_wp2
    go_meet
    exact ⟨_, rfl, rfl⟩
   | true =>
    cases h2 : ((l.length : Int) % 2 == 1) with
    | true =>
     go_wp2
     go_meet
     exact ⟨_, rfl, rfl⟩
    | false =>
     go_wp2
     go_meet
     exact ⟨_, rfl, rfl⟩
  case rest =>
   obtain ⟨r, rfl, rfl⟩ := hcut
   cases r with
   | true =>
    go_wp2
    go_ret2
    exact LinesS.nil N2.out false
   | false =>
    by_cases h4 : l.length < 4
    ·have d4 : decide ((l.length : Int) < 4) = true := decide_eq_true (by omega)
     go_wp2
     go_ret2
     exact LinesS.nil N2.out true
    ·have d4 : decide ((l.length : Int) < 4) = false := decide_eq_false (by omega)
     clear y0 y1 y2 y3
     have HS : Hid (w2.cell? ⟨R, 0, none⟩ = some (.string ⟨#[112, 111, 108, 121, 103, 111, 110]⟩)) := D2.out.1
     have HRS : Hid (R < w2.heap.size) := D2.out.2.2.2.2.2
     have K0 : Hid (Nw w2 w2) := Below.refl _ _
     go_upto_region 37 with fail
     go_region_held3 (fun w' => w'.cell? ⟨R, 0, none⟩ = some (.string ⟨#[112, 111, 108, 121, 103, 111, 110]⟩))
      (first | exact HS.out | exact ((bcell (Nw.trans K0.out ((Below.refl _ _).alloc (Nat.le_refl _) _))).1 R 0 HRS.out).trans HS.out | exact ((bcell (Nw.trans (nw_drw _) K0.out)).1 R 0 HRS.out).trans HS.out | exact ((bcell K0.out).1 R 0 HRS.out).trans HS.out)
      (first | (go_at_call 110; refine (pairs_some _ va vc l (by omega) (HI.out.nw (nw_drw _))).mono ?_; rintro e w' ⟨pv, pl, rfl, ho, hpl, k3⟩; obtain ⟨pa, pc, hpv, hps⟩ := ownp_ptsF ho; subst hpv; have HPS : Hid (PtsF w.heap.size w' pa pl) := PtsF.mono hps (Below.size (Nw.trans N2.out (nw_drw _))); replace K0 := (show Hid (Nw w2 w') from Nw.trans (nw_drw _) k3); clear ho hps k3))
     go_wp2
     go_ret2
     exact ⟨_, 1, [⟨pl, _⟩], true, rfl, lines_newly _ _ pa pc pl _ (Below.size (N2.out.trans K0.out)) HPS.out _, by simp, by simp [manyL]; omega, (N2.out.trans K0.out).trans ((Below.refl _ _).alloc (Nat.le_refl _) _)⟩
end Go.Proofs.Ytdjemnbdaddegaa
