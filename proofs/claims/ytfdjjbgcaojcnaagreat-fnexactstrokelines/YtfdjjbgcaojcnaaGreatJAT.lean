/-
  Dashes can be stroked; how the strokes of lines add up; each
-/
import Derived.Test.YtfdjjbgcaojcnaaGreatJAO
import Derived.Test.YtfdjjbgcaojcnaaGreatJAQ
import Derived.Test.YtfdjjbgcaojcnaaGreatJAS
import Derived.Test.YtfdjjbgcaojcnaaGreatJAP
import Derived.Test.YtfdjjbgcaojcnaaGreatJAE
import Derived.Test.YtfdjjbgcaojcnaaGreatJAD
import Derived.Test.YtfdjjbgcaojcnaaGreatJAA
namespace Go.Proofs.YtfdjjbgcaojcnaaGreat
open Go.ChangeShapes Go.WideShapes Go.ChangeAt Go.RowKit
set_option linter.unusedVariables false
theorem near_bx {q : Pnt} : nearB q = true ↔ bxP (-67108864) 67108864 (-67108864) 67108864 q := by
 unfold nearB bxP
 rw [Bool.and_eq_true, nrB_iff, nrB_iff]
 exact Iff.rfl
def okSt (l : LD) : Prop := 0 < l.pts.length ∧ l.pts.length ≤ 600 ∧ ∀ x, x ∈ l.pts → nearB x = true
theorem mem_many {o : List LD} {l : LD} (h : l ∈ o) : l.pts.length ≤ manyL o := by
 obtain ⟨i, hi, rfl⟩ := List.getElem_of_mem h
 have := manyL_at o i hi
 unfold lnAt at this
 rw [show o.getD i noLD = o[i] by simp [hi]] at this
 exact this
theorem dsV_good {ns : List Int} {f : Int} {p : List Pnt} (cl : Bool) (h0 : 0 < p.length) (hn : nearsB p = true) : ∀ l, l ∈ (dsV ns f p cl).1 → okSt l := by
 intro l hl
 have hbd := (dsV_bd ns f p cl).2
 have hm := mem_many hl
 refine ⟨?_, by omega, fun x hx => near_bx.2 (dsV_bx (fun a b => (szV_is a b).1) ns f p cl (fun i hi => near_bx.1 (nearsB_at hn i hi)) l hl x hx)⟩
 unfold dsV at hl
 by_cases hin : dsIn ns f p = true
 ·rw [if_pos hin] at hl
  by_cases hs : sumN ns ns.length = 0
  ·rw [if_pos hs] at hl
   rw [List.mem_singleton.1 hl]; exact h0
  ·rw [if_neg hs] at hl
   by_cases hb : 2400 < (dash1 ns f p cl).begun ∨ 600 < manyL (dash1 ns f p cl).o
   ·rw [if_pos hb] at hl; cases hl
   ·rw [if_neg hb] at hl
    have := thick_dash ns f p cl l hl
    omega
 ·rw [if_neg hin] at hl; cases hl
theorem lnAt_mem {o : List LD} {k : Nat} (h : k < o.length) : lnAt o k ∈ o := by
 unfold lnAt
 rw [show o.getD k noLD = o[k] by simp [h]]
 exact List.getElem_mem h
theorem stK_zero {ls : List LD} {p : PD} {ns : List Int} {k : Nat} (hz : (lnAt ls k).pts.length = 0) : stK ls p ns (k + 1) = stK ls p ns k := by
 rw [stK]
 cases stK ls p ns k with
 | none => rfl
 | some o => simp only [hz, if_true]
theorem stK_no {ls : List LD} {p : PD} {ns : List Int} {k : Nat} (hz : (lnAt ls k).pts.length ≠ 0) (hd : (dsV ns p.f (lnAt ls k).pts (lnAt ls k).closed).2 = false) : stK ls p ns (k + 1) = none := by
 rw [stK]
 cases stK ls p ns k with
 | none => rfl
 | some o => simp only [hz, if_false, hd, Bool.false_eq_true]
theorem stK_yes {ls : List LD} {p : PD} {ns : List Int} {k : Nat} {o : List LD} (ho : stK ls p ns k = some o) (hz : (lnAt ls k).pts.length ≠ 0) (hd : (dsV ns p.f (lnAt ls k).pts (lnAt ls k).closed).2 = true) : stK ls p ns (k + 1) = some (o ++ strkS (dsV ns p.f (lnAt ls k).pts (lnAt ls k).closed).1 (p.w / 2) p.j p.c) := by
 rw [stK, ho]
 simp only [hz, if_false, hd, if_true]
theorem stkV_is {ls : List LD} {p : PD} {ns : List Int} (hp : penB p ns = true) (hm : manyL ls ≤ 600) (hn : nearL ls = true) (hw : p.w ≠ 0) : stkV ls p ns = match stK ls p ns ls.length with
  | none => ([], false)
  | some o => if manyL o ≤ 4800 then (o, true) else ([], false) := by
 unfold stkV
 rw [if_pos ⟨hp, hm, hn⟩, if_neg hw]
 cases stK ls p ns ls.length <;> rfl
theorem stkV_none {ls : List LD} {p : PD} {ns : List Int} (hp : penB p ns = true) (hm : manyL ls ≤ 600) (hn : nearL ls = true) (hw : p.w ≠ 0) {k : Nat} (hk : k ≤ ls.length) (h : stK ls p ns k = none) : stkV ls p ns = ([], false) := by
 rw [stkV_is hp hm hn hw]
 have := stK_none ls p ns h (ls.length - k)
 rw [show k + (ls.length - k) = ls.length by omega] at this
 rw [this]
theorem strkS_take_len (ds : List LD) (h j c : Int) (m : Nat) : (strkS (ds.take m) h j c).length ≤ 2 * manyL ds := Nat.le_trans (strkS_len _ _ _ _) (by have := manyL_le ds m; omega)
theorem stkV_many {ls : List LD} {p : PD} {ns : List Int} (hp : penB p ns = true) (hm : manyL ls ≤ 600) (hn : nearL ls = true) (hw : p.w ≠ 0) {k : Nat} (hk : k < ls.length) {o : List LD} (ho : stK ls p ns k = some o) (hz : (lnAt ls k).pts.length ≠ 0) (hd : (dsV ns p.f (lnAt ls k).pts (lnAt ls k).closed).2 = true) {m : Nat}
  (hq : 4800 < manyL (o ++ strkS ((dsV ns p.f (lnAt ls k).pts (lnAt ls k).closed).1.take m) (p.w / 2) p.j p.c)) : stkV ls p ns = ([], false) := by
 have hy := stK_yes ho hz hd
 generalize (dsV ns p.f (lnAt ls k).pts (lnAt ls k).closed).1 = ds at *
 have hsplit : strkS ds (p.w / 2) p.j p.c = strkS (ds.take m) (p.w / 2) p.j p.c ++ strkS (ds.drop m) (p.w / 2) p.j p.c := by
  unfold strkS
  rw [← List.flatMap_append, List.take_append_drop]
 have hge : ∀ o', stK ls p ns (k + 1) = some o' → 4801 ≤ manyL o' := fun o' ho' => by
  rw [hy] at ho'
  injection ho' with e
  rw [← e, hsplit, ← List.append_assoc, manyL_app']
  omega
 rw [stkV_is hp hm hn hw]
 cases hc : stK ls p ns ls.length with
 | none => rfl
 | some o' =>
  have := stK_more ls p ns hge (ls.length - (k + 1)) o' (by rw [show k + 1 + (ls.length - (k + 1)) = ls.length by omega]; exact hc)
  simp only
  rw [if_neg (by omega)]
set_option maxHeartbeats 1000000 in
theorem smanyB (w : World) (a : Option Addr) (c : Nat) (l : List LD) (hl : l.length ≤ 1048576) (hm : manyL l ≤ 100000000) (hr : Lines w a l) :
  Calls Tryz.prog 46 #[.slice a l.length c] w fun e w' => e = .returned (.int .i64 (manyL l : Int)) ∧ Kp w w' := by
 have HR : Hid (Lines w a l) := hr
 clear hr
 go_enter Tryz.func46, Tryz.ntmps46
 go_wp2
 go_loopw [3, 8] (fun x i wr => ∃ k : Nat, k ≤ l.length ∧ i = .int .i64 k ∧ x = .int .i64 (manyL (l.take k) : Int) ∧ Kp w wr) (fun _ i _ => l.length - (intOf i).toNat)
 case atStart => exact ⟨0, Nat.zero_le _, rfl, rfl, Kp.refl _⟩
 case round =>
  obtain ⟨k, hk, rfl, rfl, hw⟩ := hrel
  have HW : Hid (Kp w wr) := hw
  clear hw
  by_cases hlt : k < l.length
  ·rcases (HR.out.nw HW.out.nw) with h | ⟨b, off, rfl, hb, hc⟩
   ·rw [h] at hlt; simp at hlt
   obtain ⟨⟨pa, pc, q0, _⟩, q1⟩ := hc k hlt
   clear hc
   have hs := manyL_step l k hlt
   have hle := manyL_le l (k + 1)
   have HE : Hid (manyL (l.take (k + 1)) = manyL (l.take k) + (lnAt l k).pts.length) := hs
   rw [hs] at hle
   clear hs
   generalize manyL (l.take k) = m at *
   generalize (lnAt l k).pts.length = n at *
   generalize (lnAt l k).closed = cl at *
   go_wp2
   go_roundw
   case rel => exact ⟨k + 1, by omega, by go_num, by rw [HE.out]; go_num, HW.out.alloc _ _⟩
   case measure => simp [intOf]; omega
  ·have e : k = l.length := by omega
   subst e
   rw [List.take_length]
   go_wp2
   go_ret
   exact ⟨rfl, HW.out⟩
theorem sl10d (w : World) (g off pc : Nat) (p : List Pnt) (cl : Bool) (na : Option Addr) (nc : Nat) (ns : List Int) (f : Int) (hin : dsIn ns f p = true) (hL : LieP w g off p) (hI : Ints w na ns) :
  Calls Tryz.prog 39 #[.agg #[.slice (some ⟨g, off, none⟩) p.length pc, .bool cl], .slice na ns.length nc, .int .i64 f] w fun e w' => ∃ v o, e = .returned (.tuple #[v, .bool (dsV ns f p cl).2]) ∧ LsOk w' w.heap.size v o ∧ ((dsV ns f p cl).2 = true → o = (dsV ns f p cl).1) ∧ Nw w w' := by
 have hin' := hin
 unfold dsIn at hin'
 simp only [Bool.and_eq_true, decide_eq_true_eq] at hin'
 obtain ⟨⟨l1, l2⟩, hne, hd⟩ := hin'
 obtain ⟨z1, z2, z3⟩ := dsh_NB hd
 by_cases hs : sumN ns ns.length = 0
 ·have e : dsV ns f p cl = ([⟨p, cl⟩], true) := by unfold dsV; rw [if_pos hin, if_pos hs]
  rw [e]
  refine Calls.mono (sdashB w g off pc p cl na nc ns f (by omega) l2 z1 (fun i hi => (z3 i hi).1) hs hL hI) ?_
  rintro e w' ⟨v, rfl, o, n⟩
  exact ⟨v, _, rfl, o, fun _ => rfl, n⟩
 ·have hn0 : 0 < ns.length := sum_some hs
  have hNBs : NB ns := ⟨hn0, z3⟩
  have hrp : 0 < rndN ns := by
   have := (sumN_bd z3 ns.length (Nat.le_refl _)).1
   unfold rndN
   split <;> omega
  have hall := all_both hNBs z1 (Int.emod_nonneg f (show rndN ns ≠ 0 by omega)) (Int.emod_lt_of_pos f hrp) p cl (d := dash1 ns f p cl) rfl
  have e : dsV ns f p cl = if (wk2 ns (f % rndN ns) p cl).many ≤ 600 ∧ (wk2 ns (f % rndN ns) p cl).begun ≤ 2400 then ((wk2 ns (f % rndN ns) p cl).out, true) else ([], false) := by
   rw [← hall]; unfold dsV; rw [if_pos hin, if_neg hs]
  refine Calls.mono (sdashC w g off pc p cl na nc ns f (by omega) l2 hne z1 hNBs z2.1 z2.2 hs hL hI) ?_
  rintro e1 w' ⟨v, rfl, o, n⟩
  rw [e]
  by_cases hT : (wk2 ns (f % rndN ns) p cl).many ≤ 600 ∧ (wk2 ns (f % rndN ns) p cl).begun ≤ 2400
  ·rw [if_pos hT, decide_eq_true hT]
   exact ⟨v, _, rfl, o, fun _ => rfl, n⟩
  ·rw [if_neg hT, decide_eq_false hT]
   exact ⟨v, _, rfl, o, fun h => (by cases h), n⟩
theorem penB_w {p : PD} {ns : List Int} (h : penB p ns = true) : (0 ≤ p.w ∧ p.w ≤ 4194304) ∧ dshB ns p.f = true := by
 unfold penB at h
 simp only [Bool.and_eq_true, decide_eq_true_eq] at h
 exact ⟨h.1, h.2.2.2⟩
def EndS (w w' : World) (e : Ending) (RV : List LD × Bool) : Prop := ∃ v o, e = .returned (.tuple #[v, .bool RV.2]) ∧ LsOk w' w.heap.size v o ∧ (RV.2 = true → o = RV.1) ∧ Nw w w'
set_option maxRecDepth 100000 in
set_option maxHeartbeats 16000000 in
theorem sstroke (w : World) (a : Option Addr) (c : Nat) (ls : List LD) (p : PD) (na : Option Addr) (nc : Nat) (ns : List Int) (hl : ls.length ≤ 1048576) (hpen : penB p ns = true) (hm : manyL ls ≤ 600) (hnr : nearL ls = true) (hw0 : p.w ≠ 0) (hr : Lines w a ls) (hI : Ints w na ns) :
  Calls Tryz.prog 47 #[.slice a ls.length c, penV p (.slice na ns.length nc)] w fun e w' => EndS w w' e (stkV ls p ns) := by
 obtain ⟨⟨pw0, pw1⟩, hdsh⟩ := penB_w hpen
 have HZ : Hid (∀ k, (lnAt ls k).pts.length = 0 → stK ls p ns (k + 1) = stK ls p ns k) := fun k h => stK_zero h
 have HNO : Hid (∀ k, k < ls.length → (lnAt ls k).pts.length ≠ 0 → (dsV ns p.f (lnAt ls k).pts (lnAt ls k).closed).2 = false → stkV ls p ns = ([], false)) := fun k hk h1 h2 => stkV_none hpen hm hnr hw0 (show k + 1 ≤ ls.length by omega) (stK_no h1 h2)
 have HYES : Hid (∀ k o, stK ls p ns k = some o → (lnAt ls k).pts.length ≠ 0 → (dsV ns p.f (lnAt ls k).pts (lnAt ls k).closed).2 = true → stK ls p ns (k + 1) = some (o ++ strkS (dsV ns p.f (lnAt ls k).pts (lnAt ls k).closed).1 (p.w / 2) p.j p.c)) := fun k o h1 h2 h3 => stK_yes h1 h2 h3
 have HBD : Hid (∀ k o, k ≤ ls.length → stK ls p ns k = some o → o.length ≤ 720000 ∧ manyL o ≤ 24000000) := fun k o hk h => by
  obtain ⟨b1, b2⟩ := stK_bd ls p ns k o hk h
  have b3 := manyL_le ls k
  have b4 := b2.many
  exact ⟨by omega, by omega⟩
 have HEND : Hid (∀ o, stK ls p ns ls.length = some o → (stkV ls p ns).2 = decide (manyL o ≤ 4800) ∧ ((stkV ls p ns).2 = true → o = (stkV ls p ns).1)) := fun o h => by
  by_cases h4 : manyL o ≤ 4800
  ·have e : stkV ls p ns = (o, true) := by rw [stkV_is hpen hm hnr hw0, h]; simp only [if_pos h4]
   rw [e]; exact ⟨(decide_eq_true h4).symm, fun _ => rfl⟩
  ·have e : stkV ls p ns = ([], false) := by rw [stkV_is hpen hm hnr hw0, h]; simp only [if_neg h4]
   rw [e]; exact ⟨(decide_eq_false h4).symm, fun h => by cases h⟩
 have HIN : Hid (∀ k, k < ls.length → (lnAt ls k).pts.length ≠ 0 → dsIn ns p.f (lnAt ls k).pts = true ∧ ∀ l, l ∈ (dsV ns p.f (lnAt ls k).pts (lnAt ls k).closed).1 → okSt l) := fun k hk h => by
  have h1 := manyL_at ls k hk
  have h2 := nearL_at hnr k hk
  refine ⟨?_, dsV_good _ (by omega) h2⟩
  unfold dsIn
  rw [h2, hdsh, decide_eq_true (by omega)]; rfl
 have HDL : Hid (∀ k, (dsV ns p.f (lnAt ls k).pts (lnAt ls k).closed).1.length ≤ 1048576 ∧ manyL (dsV ns p.f (lnAt ls k).pts (lnAt ls k).closed).1 ≤ 600) := fun k => dsV_bd _ _ _ _
 obtain ⟨SK, hSK⟩ : ∃ SK, stK ls p ns = SK := ⟨_, rfl⟩
 have HS0 : Hid (SK 0 = some []) := by show _ = _; rw [← hSK]; rfl
 rw [hSK] at HZ HYES HBD HEND
 obtain ⟨RV, hRV⟩ : ∃ RV, stkV ls p ns = RV := ⟨_, rfl⟩
 rw [hRV] at HNO HEND ⊢
 clear hSK hRV
 have HR : Hid (Lines w a ls) := hr
 have HI : Hid (Ints w na ns) := hI
 have HPW : Hid (0 ≤ p.w ∧ p.w ≤ 4194304) := ⟨pw0, pw1⟩
 clear hr hI hpen hdsh hnr
 obtain ⟨pw, pj, pc, pf⟩ := p
 simp only [penV] at *
 have HLN : Hid (∀ (w : World) (a : Option Addr) (c : Nat) (l : LD), okSt l → Pts w a l.pts → _) := fun w a c l hk hP => sline w a c l ⟨pw, pj, pc, pf⟩ (.slice na ns.length nc) ⟨_, _, _, rfl⟩ hk.1 hk.2.1 hk.2.2 HPW.out.1 HPW.out.2 hP
 simp only at HLN
 generalize hh : pw / 2 = h at *
 clear hh
 have d0 : (pw == 0) = false := by simp [hw0]
 obtain ⟨W, hW⟩ : ∃ W, w.alloc (.cells #[.int .i64 pw, .int .i64 pj, .int .i64 pc, .slice na ns.length nc, .int .i64 pf] 36) = W := ⟨_, rfl⟩
 obtain ⟨bp, hbp⟩ : ∃ bp, w.heap.size = bp := ⟨_, rfl⟩
 have y0 : W.cell? ⟨bp, 0, none⟩ = some (.int .i64 pw) := by rw [← hW, ← hbp]; simp
 have y1 : W.cell? ⟨bp, 1, none⟩ = some (.int .i64 pj) := by rw [← hW, ← hbp]; simp
 have y2 : W.cell? ⟨bp, 2, none⟩ = some (.int .i64 pc) := by rw [← hW, ← hbp]; simp
 have y3 : W.cell? ⟨bp, 3, none⟩ = some (.slice na ns.length nc) := by rw [← hW, ← hbp]; simp
 have y4 : W.cell? ⟨bp, 4, none⟩ = some (.int .i64 pf) := by rw [← hW, ← hbp]; simp
 have HPB : Hid (∀ w', Nw W w' → (w'.cell? ⟨bp, 0, none⟩ = some (.int .i64 pw) ∧ w'.cell? ⟨bp, 1, none⟩ = some (.int .i64 pj) ∧ w'.cell? ⟨bp, 2, none⟩ = some (.int .i64 pc) ∧ w'.cell? ⟨bp, 3, none⟩ = some (.slice na ns.length nc) ∧ w'.cell? ⟨bp, 4, none⟩ = some (.int .i64 pf))) := fun w' k => ⟨nw_at k y0, nw_at k y1, nw_at k y2, nw_at k y3, nw_at k y4⟩
 have NW : Hid (Nw w W) := by show Nw _ _; rw [← hW]; exact (Below.refl _ _).alloc (Nat.le_refl _) _
 have HBP : Hid (w.heap.size = bp) := hbp
 have HBW : Hid (bp < W.heap.size) := World.block_lt_of_cell? W ⟨bp, 0, none⟩ y0
 have HW : Hid (_ = W) := hW
 clear hW hw0 y1 y2 y3 y4
 obtain ⟨nn, hnn⟩ : ∃ nn, ns.length = nn := ⟨_, rfl⟩
 have HNN : Hid (ns.length = nn) := hnn
 rw [hnn] at HPB HLN HW ⊢
 clear hnn
 obtain ⟨n, hn⟩ : ∃ n, ls.length = n := ⟨_, rfl⟩
 have HN : Hid (ls.length = n) := hn
 rw [hn] at HNO HBD HEND HIN hl ⊢
 clear hn
 go_enter Tryz.func47, Tryz.ntmps47
 go_upto_region 2 with fail
 rw [HW.out]
 go_wp2
 clear y0
 go_loopw [18, 6] (fun i v wr => ∃ (k : Nat) (it : Its), k ≤ n ∧ i = .int .i64 (k : Int) ∧ OwnLn wr W.heap.size v it ∧ SK k = some (it.map (·.2)) ∧ Nw W wr) (fun i _ _ => n - (intOf i).toNat)
 case atStart => exact ⟨0, [], Nat.zero_le _, rfl, OwnLn.nil _ _, HS0.out, Below.refl _ _⟩
 case round =>
  obtain ⟨k, it, hk, rfl, ho, he, hw⟩ := hrel
  have HE : Hid (SK k = some (it.map (·.2))) := he
  have HO : Hid (OwnLn wr W.heap.size _ it) := ho
  have HWr : Hid (Nw W wr) := hw
  have hbd := HBD.out k _ hk he
  rw [List.length_map] at hbd
  have hil : it.length ≤ 720000 := hbd.1
  have HIM : Hid (manyL (it.map (·.2)) ≤ 24000000) := hbd.2
  obtain ⟨va, vn, vc, hv⟩ := OwnQ.slice ho.own
  subst hv
  clear ho hw he hbd
  by_cases hlt : k < n
  ·have d1 : decide ((k : Int) < (n : Int)) = true := by simp; omega
   rcases (Lines.nw HR.out (Nw.trans NW.out HWr.out)) with h0 | ⟨b, off, rfl, hb, hc⟩
   ·have := HN.out; rw [h0] at this; simp at this; omega
   obtain ⟨⟨pa, pcc, q0, hP⟩, q1⟩ := hc k (by rw [HN.out]; exact hlt)
   have HPk : Hid (Pts wr pa (lnAt ls k).pts) := hP
   have HZk := HZ.out k
   have HNOk : Hid _ := HNO.out k hlt
   have HYk : Hid _ := HYES.out k
   have HINk : Hid _ := HIN.out k hlt
   have HDLk := HDL.out k
   clear hc hP HZ HNO HYES HIN HDL
   generalize lnAt ls k = ll at *
   obtain ⟨pts, cl⟩ := ll
   simp only at q0 q1 HPk HZk HNOk HYk HINk HDLk
   by_cases hz : pts.length = 0
   ·have HZZ : Hid (SK (k + 1) = SK k) := HZk hz
    rw [hz] at q0
    clear HZk
    go_wp2
    go_roundw
    case rel => exact ⟨k + 1, it, hlt, by go_num, OwnLn.nw HO.out (Kp.nw ((Kp.refl wr).alloc _ _)), by rw [HZZ.out]; exact HE.out, Nw.trans HWr.out (Kp.nw ((Kp.refl wr).alloc _ _))⟩
    case measure => simp [intOf]; omega
   ·obtain ⟨gp, op, hpa, hlie⟩ := Pts.lie HPk.out (by omega)
    subst hpa
    obtain ⟨hin, hok⟩ := HINk.out hz
    obtain ⟨W1, hW1⟩ : ∃ W1, wr.alloc (.cells #[.slice (some ⟨gp, op, none⟩) pts.length pcc, .bool cl] 25) = W1 := ⟨_, rfl⟩
    have n1 : Nw wr W1 := by rw [← hW1]; exact Kp.nw ((Kp.refl wr).alloc _ _)
    have HD : Hid _ := sl10d W1 gp op pcc pts cl na nc ns pf hin (LieP.nw hlie n1) (Ints.nw HI.out (Nw.trans NW.out (Nw.trans HWr.out n1)))
    have d2 : ((pts.length : Int) == 0) = false := beq_eq_false_iff_ne.2 (by omega)
    obtain ⟨x0, x1, x2, x3, x4⟩ := HPB.out wr HWr.out
    have hbpw : bp < wr.heap.size := World.block_lt_of_cell? wr ⟨bp, 0, none⟩ x0
    have HOK : Hid _ := hok
    have HNZ : Hid (¬ pts.length = 0) := hz
    have HW1 : Hid (_ = W1) := hW1
    have N1 : Hid (Nw wr W1) := n1
    rw [HNN.out] at HD
    clear hin hok hlie hW1 n1 HINk HPk HZk
    cases hds : (dsV ns pf pts cl).2 with
    | false =>
     have HNN2 : Hid (RV = ([], false)) := HNOk.out HNZ.out hds
     rw [hds] at HD
     clear hds hz
     generalize pts.length = np at *
     go_wp2_with fail
     rw [HW1.out]
     refine Calls.mono HD.out ?_
     rintro e w2 ⟨v2, o2, rfl, h2, _, n2⟩
     have N2 : Hid (Nw w w2) := Nw.trans NW.out (Nw.trans HWr.out (Nw.trans N1.out n2))
     clear h2 n2
     go_wp2
     go_ret2
     rw [HNN2.out]
     exact ⟨.slice none 0 0, [], rfl, LsOk.of (OwnLn.nil _ _) rfl, (fun h => by cases h), N2.out⟩
    | true =>
     rw [hds] at HD
     have HSK : Hid _ := HYk.out _ HE.out HNZ.out hds
     generalize (dsV ns pf pts cl).1 = ds at *
     clear hds hz HNOk HYk
     generalize pts.length = np at *
     obtain ⟨wo, hwo⟩ : ∃ x, x = wr := ⟨_, rfl⟩
     subst hwo
     go_wp2_with fail
     rw [HW1.out]
     refine Calls.mono HD.out ?_
     rintro e w2 ⟨v2, o2, rfl, ⟨itd, od, ed⟩, hod, n2⟩
     have hed : itd.map (·.2) = ds := ed.trans (hod (by first | rfl | trivial | assumption))
     obtain ⟨da, dc, hv2, _⟩ := OwnLn.lines od
     rw [hed] at hv2
     have OD : Hid (OwnLn w2 W1.heap.size v2 itd) := od
     have HED : Hid (itd.map (·.2) = ds) := hed
     have NO2 : Hid (Nw wo w2) := Nw.trans N1.out n2
     have N2 : Hid (Nw W w2) := Nw.trans HWr.out NO2.out
     have S12 : Hid (wo.heap.size ≤ W1.heap.size ∧ W1.heap.size ≤ w2.heap.size) := ⟨Below.size N1.out, Below.size n2⟩
     have HV2 : Hid (v2 = .slice da ds.length dc) := hv2
     obtain ⟨nd, hnd⟩ : ∃ nd, ds.length = nd := ⟨_, rfl⟩
     have HND : Hid (ds.length = nd) := hnd
     rw [hnd] at hv2 HDLk
     subst hv2
     clear od ed hod n2 hed hnd x0 x1 x2 x3 x4 HD q0 q1
     go_wp2
     go_loopw [39, 6] (fun i v wr => ∃ (m : Nat) (it' : Its), m ≤ nd ∧ i = .int .i64 (m : Int) ∧ OwnLn wr W.heap.size v it' ∧ it'.map (·.2) = it.map (·.2) ++ strkS (ds.take m) h pj pc ∧ Nw W wr ∧ Kin W1.heap.size w2.heap.size w2 wr ∧ (∀ b, v.ownBlock = some b → b < W1.heap.size ∨ w2.heap.size ≤ b)) (fun i _ _ => nd - (intOf i).toNat)
     case atStart =>
      refine ⟨0, it, Nat.zero_le _, rfl, OwnLn.nw HO.out NO2.out, by simp [strkS], N2.out, Kin.refl _ _ _, fun b hb => Or.inl ?_⟩
      have h1 := (OwnQ.lt HO.out.own b hb).2
      have h2 := S12.out.1
      omega
     case round =>
      obtain ⟨m, it', hm', rfl, ho', he', hw', hkin, hbl⟩ := hrel
      have HE' : Hid _ := he'
      have HO' : Hid (OwnLn wr W.heap.size _ it') := ho'
      have HW' : Hid (Nw W wr) := hw'
      have HK' : Hid (Kin W1.heap.size w2.heap.size w2 wr) := hkin
      have HBL' : Hid _ := hbl
      obtain ⟨ua, un, uc, hu⟩ := OwnQ.slice ho'.own
      subst hu
      clear ho' he' hw' hkin hbl
      by_cases hmlt : m < nd
      ·have d3 : decide ((m : Int) < (nd : Int)) = true := by simp; omega
       have odk := OwnLn.kin OD.out HK'.out (Nat.le_refl _)
       obtain ⟨da', dc', hda, hLn⟩ := OwnLn.lines odk
       rw [HED.out] at hda hLn
       have e0 : da = da' := by injection hda
       rw [← e0] at hLn
       clear hda e0
       rcases hLn with h0 | ⟨b2, off2, hda2, hb2, hc2⟩
       ·have := HND.out; rw [h0] at this; simp at this; omega
       subst hda2
       obtain ⟨⟨pa2, pc2, r0, hP2⟩, r1⟩ := hc2 m (by rw [HND.out]; exact hmlt)
       have hok2 := HOK.out (lnAt ds m) (lnAt_mem (by rw [HND.out]; exact hmlt))
       have HSS : Hid (strkS (ds.take (m + 1)) h pj pc = strkS (ds.take m) h pj pc ++ strkL (lnAt ds m) h pj pc) := strkS_succ ds h pj pc m (by rw [HND.out]; exact hmlt)
       have hll : it'.length ≤ 730000 := by
        have e1 := congrArg List.length HE'.out
        rw [List.length_map, List.length_append, List.length_map] at e1
        have e2 := strkS_take_len ds h pj pc m
        have e3 := HDLk.2
        omega
       have hsl := strkL_len (lnAt ds m) h pj pc
       have hs6 := hok2.2.1
       obtain ⟨x0, x1, x2, x3, x4⟩ := HPB.out wr HW'.out
       have hbpw2 : bp < wr.heap.size := World.block_lt_of_cell? wr ⟨bp, 0, none⟩ x0
       generalize lnAt ds m = dl at *
       obtain ⟨dpts, dcl⟩ := dl
       simp only at r0 r1 hP2 hok2 hsl hs6
       obtain ⟨W3, hW3⟩ : ∃ W3, wr.alloc (.cells #[.slice pa2 dpts.length pc2, .bool dcl] 25) = W3 := ⟨_, rfl⟩
       have n3 : Nw wr W3 := by rw [← hW3]; exact Kp.nw ((Kp.refl wr).alloc _ _)
       have HLL : Hid _ := HLN.out W3 pa2 pc2 ⟨dpts, dcl⟩ hok2 (Pts.nw hP2 n3)
       simp only at HLL
       have N3 : Hid (Nw wr W3) := n3
       have HSL : Hid ((strkL ⟨dpts, dcl⟩ h pj pc).length ≤ 1200) := by show _ ≤ _; omega
       have HLT : Hid (it'.length ≤ 730000) := hll
       have HW3 : Hid (_ = W3) := hW3
       generalize strkL ⟨dpts, dcl⟩ h pj pc = ST at *
       clear hP2 hok2 hsl hs6 hc2 odk n3 hW3 hll
       generalize dpts.length = dn at *
       go_wp2_with fail
       rw [HW3.out]
       refine Calls.mono HLL.out ?_
       rintro e w4 ⟨v4, rfl, ⟨it4, o4, e4⟩, n4⟩
       obtain ⟨ga, gn, gc, hv4⟩ := OwnQ.slice o4.own
       subst hv4
       have O4 : Hid (OwnLn w4 W3.heap.size (.slice ga gn gc) it4) := o4
       have E4 : Hid (it4.map (·.2) = ST) := e4
       have N4 : Hid (Nw wr w4) := Nw.trans N3.out n4
       have L4 : Hid (it4.length ≤ 1200) := by show _ ≤ _; have := congrArg List.length e4; rw [List.length_map] at this; have := HSL.out; omega
       have S3 : Hid (wr.heap.size ≤ W3.heap.size) := Below.size N3.out
       clear o4 e4 n4 r0 r1 x0 x1 x2 x3 x4 HLL
       go_wp2_with (at_builtin; (refine wpl_qs 25 29 29 (.slice none 0 0) (.bool false) 32 under_lns under_lns info_line (by decide) rfl w4 rfl (.tmp 43) (.tmp 46) rfl W.heap.size W3.heap.size (.slice ua un uc) (.slice ga gn gc) (vLn it') (vLn it4) rfl rfl (OwnQ.nw HO'.out.own N4.out) O4.out.own O4.out.its.one ?hl ?hB ?_))
       case hl => rw [vLn_len, vLn_len]; have h1 := HLT.out; have h2 := L4.out; omega
       case hB => exact Nat.le_trans (Below.size HW'.out) (Below.size N4.out)
       intro v' w5 h2 h3
       rw [← vLn_append] at h2
       have O5 : Hid (OwnLn w5 W.heap.size v' (it' ++ it4)) := OwnLn.puts (u := .slice none 0 0) HO'.out N4.out (Below.size HW'.out) (ItsOk.base O4.out.its S3.out) h2 h3
       have N5 : Hid (Nw W w5) := Below.trans (Nw.trans HW'.out N4.out) (Ext.below h3 (fun g hg => (OwnQ.lt HO'.out.own g hg).1) (Nat.le_trans (Below.size HW'.out) (Below.size N4.out)))
       have s24 : w2.heap.size ≤ w4.heap.size := Nat.le_trans HK'.out.1 (Below.size N4.out)
       have K5 : Hid (Kin W1.heap.size w2.heap.size w2 w5) := Kin.trans HK'.out (Kin.trans (Kin.nw N4.out HK'.out.1) (Kin.ext h3 s24 HBL'.out))
       have B5 : Hid (∀ b, v'.ownBlock = some b → b < W1.heap.size ∨ w2.heap.size ≤ b) := fun b hb => by
        rcases h3.2 with h4 | ⟨g, h4, h5⟩
        ·rw [h4] at hb; exact HBL'.out b hb
        ·rw [h4] at hb; injection hb with hb; omega
       obtain ⟨ka, kn, kc, hk5⟩ := OwnQ.slice h2
       subst hk5
       clear h2 h3 s24
       go_wp2
       go_roundw
       case rel => exact ⟨m + 1, _, hmlt, by go_num, O5.out, by rw [List.map_append, HE'.out, E4.out, HSS.out, List.append_assoc], N5.out, K5.out, B5.out⟩
       case measure => simp [intOf]; omega
      ·obtain rfl : m = nd := by omega
       have d3 : decide ((m : Int) < (m : Int)) = false := by simp
       have HTK : Hid (ds.take m = ds) := by show _ = _; rw [← HND.out, List.take_length]
       go_wp2
       go_roundw
       case rel => exact ⟨k + 1, it', hlt, by go_num, HO'.out, by rw [HSK.out, HE'.out, HTK.out], HW'.out⟩
       case measure => simp [intOf]; omega
  ·obtain rfl : k = n := by omega
   have d1 : decide ((k : Int) < (k : Int)) = false := by simp
   obtain ⟨e1, e2⟩ := HEND.out _ HE.out
   obtain ⟨va', vc', hva, hLn⟩ := OwnLn.lines HO.out
   injection hva with h1 h2 h3
   subst h1 h2 h3
   have HMN : Hid _ := smanyB wr va vc (it.map (·.2)) (by rw [List.length_map]; omega) (by have := HIM.out; omega) hLn
   have HE1 : Hid _ := e1
   have HE2 : Hid _ := e2
   clear e1 e2 hLn
   generalize hMM : it.map (·.2) = MM at *
   have HMM : Hid (it.map (·.2) = MM) := hMM
   clear hMM
   by_cases h4 : manyL MM ≤ 4800
   ·have d4 : decide ((manyL MM : Int) ≤ 4800) = true := by simp; omega
    have HR2 : Hid (RV.2 = true) := by show _ = _; rw [HE1.out, decide_eq_true h4]
    clear h4
    generalize manyL MM = mm at *
    generalize MM.length = ml at *
    go_wp2_with fail
    refine Calls.mono HMN.out ?_
    rintro e w7 ⟨rfl, k7⟩
    have K7 : Hid (Nw wr w7) := Kp.nw k7
    clear k7
    go_wp2
    go_ret2
    unfold EndS
    exact ⟨_, MM, by rw [HR2.out]; rfl, LsOk.of (OwnLn.base (OwnLn.nw HO.out K7.out) (Below.size NW.out)) HMM.out, HE2.out, Nw.trans NW.out (Nw.trans HWr.out K7.out)⟩
   ·have d4 : decide ((manyL MM : Int) ≤ 4800) = false := by simp; omega
    have HR2 : Hid (RV.2 = false) := by show _ = _; rw [HE1.out, decide_eq_false h4]
    clear h4
    generalize manyL MM = mm at *
    generalize MM.length = ml at *
    go_wp2_with fail
    refine Calls.mono HMN.out ?_
    rintro e w7 ⟨rfl, k7⟩
    have K7 : Hid (Nw wr w7) := Kp.nw k7
    clear k7
    go_wp2
    go_ret2
    unfold EndS
    exact ⟨_, MM, by rw [HR2.out]; rfl, LsOk.of (OwnLn.base (OwnLn.nw HO.out K7.out) (Below.size NW.out)) HMM.out, HE2.out, Nw.trans NW.out (Nw.trans HWr.out K7.out)⟩
theorem sstroke0 (w : World) (a : Option Addr) (n c : Nat) (pj pc pf : Int) (na : Option Addr) (nn nc : Nat) :
  Calls Tryz.prog 47 #[.slice a n c, .agg #[.int .i64 0, .int .i64 pj, .int .i64 pc, .slice na nn nc, .int .i64 pf]] w fun e w' => e = .returned (.tuple #[.slice none 0 0, .bool true]) ∧ Nw w w' := by
 go_enter Tryz.func47, Tryz.ntmps47
 go_wp2
 go_ret2
 exact ⟨rfl, Kp.nw ((Kp.refl w).alloc _ _)⟩
def StS (w w' : World) (e : Ending) (RV : List LD × Bool) : Prop := ∃ v, e = .returned (.tuple #[v, .bool RV.2]) ∧ LsOk w' w.heap.size v RV.1 ∧ Nw w w'
theorem StS.no {w w' : World} (k : Nw w w') : StS w w' (.returned (.tuple #[.slice none 0 0, .bool false])) ([], false) := ⟨_, rfl, LsOk.of (OwnLn.nil _ _) rfl, k⟩
theorem stkV_no {ls : List LD} {p : PD} {ns : List Int} (h : ¬ (penB p ns = true ∧ manyL ls ≤ 600 ∧ nearL ls = true)) : stkV ls p ns = ([], false) := by
 unfold stkV; rw [if_neg h]
theorem stkV_false {ls : List LD} {p : PD} {ns : List Int} (h : (stkV ls p ns).2 = false) : stkV ls p ns = ([], false) := by
 revert h
 unfold stkV
 split
 ·split
  ·intro h; cases h
  ·cases stK ls p ns ls.length with
   | none => intro _; rfl
   | some o =>
    simp only
    split
    ·intro h; cases h
    ·intro _; rfl
 ·intro _; rfl
set_option maxRecDepth 100000 in
set_option maxHeartbeats 16000000 in
theorem sstrokeLines (w : World) (a : Option Addr) (c : Nat) (ls : List LD) (p : PD) (na : Option Addr) (nc : Nat) (ns : List Int) (hl : ls.length ≤ 1048576) (hm : manyL ls ≤ 1048576) (hns : ns.length ≤ 1048576) (hr : Lines w a ls) (hI : Ints w na ns) :
  Calls Tryz.prog 11 #[.slice a ls.length c, penV p (.slice na ns.length nc)] w fun e w' => StS w w' e (stkV ls p ns) := by
 have HGP : Hid (∀ w', Nw w w' → _) := fun w' k => sgoodPen w' p na nc ns hns (Ints.nw hI k)
 have HMY : Hid (∀ w', Nw w w' → _) := fun w' k => smany w' a c ls hl hm (Lines.nw hr k)
 have HNOV : Hid (¬ (penB p ns = true ∧ manyL ls ≤ 600 ∧ nearL ls = true) → stkV ls p ns = ([], false)) := stkV_no
 have HST : Hid (penB p ns = true → manyL ls ≤ 600 → nearL ls = true → p.w ≠ 0 → ∀ w', Nw w w' → _) := fun h1 h2 h3 h4 w' k => sstroke w' a c ls p na nc ns hl h1 h2 h3 h4 (Lines.nw hr k) (Ints.nw hI k)
 have HZR : Hid (penB p ns = true → manyL ls ≤ 600 → nearL ls = true → p.w = 0 → stkV ls p ns = ([], true)) := fun h1 h2 h3 h4 => by unfold stkV; rw [if_pos ⟨h1, h2, h3⟩, if_pos h4]
 have HFA : Hid ((stkV ls p ns).2 = false → stkV ls p ns = ([], false)) := stkV_false
 obtain ⟨RV, hRV⟩ : ∃ RV, stkV ls p ns = RV := ⟨_, rfl⟩
 rw [hRV] at HNOV HST HZR HFA ⊢
 clear hRV
 obtain ⟨PB', hPB⟩ : ∃ b, penB p ns = b := ⟨_, rfl⟩
 rw [hPB] at HGP HNOV HST HZR
 clear hPB
 have HR : Hid (Lines w a ls) := hr
 clear hr hI
 obtain ⟨pw, pj, pc, pf⟩ := p
 simp only [penV] at *
 obtain ⟨W, hW⟩ : ∃ W, w.alloc (.cells #[.int .i64 pw, .int .i64 pj, .int .i64 pc, .slice na ns.length nc, .int .i64 pf] 36) = W := ⟨_, rfl⟩
 have y0 : W.cell? ⟨w.heap.size, 0, none⟩ = some (.int .i64 pw) := by rw [← hW]; simp
 have y1 : W.cell? ⟨w.heap.size, 1, none⟩ = some (.int .i64 pj) := by rw [← hW]; simp
 have y2 : W.cell? ⟨w.heap.size, 2, none⟩ = some (.int .i64 pc) := by rw [← hW]; simp
 have y3 : W.cell? ⟨w.heap.size, 3, none⟩ = some (.slice na ns.length nc) := by rw [← hW]; simp
 have y4 : W.cell? ⟨w.heap.size, 4, none⟩ = some (.int .i64 pf) := by rw [← hW]; simp
 have HPB : Hid (∀ w', Nw W w' → (w'.cell? ⟨w.heap.size, 0, none⟩ = some (.int .i64 pw) ∧ w'.cell? ⟨w.heap.size, 1, none⟩ = some (.int .i64 pj) ∧ w'.cell? ⟨w.heap.size, 2, none⟩ = some (.int .i64 pc) ∧ w'.cell? ⟨w.heap.size, 3, none⟩ = some (.slice na ns.length nc) ∧ w'.cell? ⟨w.heap.size, 4, none⟩ = some (.int .i64 pf))) := fun w' k => ⟨nw_at k y0, nw_at k y1, nw_at k y2, nw_at k y3, nw_at k y4⟩
 have NW : Hid (Nw w W) := by show Nw _ _; rw [← hW]; exact (Below.refl _ _).alloc (Nat.le_refl _) _
 have HW : Hid (_ = W) := hW
 clear hW
 generalize ns.length = nn at *
 clear hns
 cases PB' with
 | false =>
  have HE : Hid (RV = ([], false)) := HNOV.out (fun h => by cases h.1)
  generalize ls.length = n at *
  go_enter Tryz.func11, Tryz.ntmps11
  go_wp2_with fail
  rw [HW.out]
  refine Calls.mono (HGP.out W NW.out) ?_
  rintro e w1 ⟨rfl, k1⟩
  have N1 : Hid (Nw w w1) := Nw.trans NW.out (Kp.nw k1)
  clear k1
  go_wp2
  go_ret2
  rw [HE.out]
  exact StS.no N1.out
 | true =>
  by_cases h6 : manyL ls ≤ 600
  ·have d6 : decide ((600 : Int) < (manyL ls : Int)) = false := by simp; omega
   have HMG : Hid (manyL ls = manyL ls) := rfl
   have HATL : Hid (∀ k, k < ls.length → (lnAt ls k).pts.length ≤ 600) := fun k hk => Nat.le_trans (manyL_at ls k hk) h6
   have HST2 : Hid _ := HST.out rfl h6
   have HZR2 : Hid _ := HZR.out rfl h6
   have HNO2 : Hid (nearL ls = false → RV = ([], false)) := fun h => HNOV.out (fun h2 => by rw [h] at h2; cases h2.2.2)
   clear HST HZR HNOV h6 hm
   obtain ⟨n, hn⟩ : ∃ n, ls.length = n := ⟨_, rfl⟩
   have HN : Hid (ls.length = n) := hn
   rw [hn] at HMY HATL HST2 hl ⊢
   clear hn
   generalize manyL ls = mm at *
   go_enter Tryz.func11, Tryz.ntmps11
   go_wp2_with fail
   rw [HW.out]
   refine Calls.mono (HGP.out W NW.out) ?_
   rintro e w1 ⟨rfl, k1⟩
   have K1 : Hid (Nw W w1) := Kp.nw k1
   clear k1 y0 y1 y2 y3 y4
   go_wp2_with fail
   refine Calls.mono (HMY.out w1 (Nw.trans NW.out K1.out)) ?_
   rintro e w2 ⟨rfl, k2⟩
   have K2 : Hid (Nw W w2) := Nw.trans K1.out (Kp.nw k2)
   clear k2
   go_wp2
   go_loopw [22] (fun i wr => ∃ k : Nat, k ≤ n ∧ i = .int .i64 (k : Int) ∧ (∀ m, m < k → nearsB (lnAt ls m).pts = true) ∧ Nw W wr) (fun i _ => n - (intOf i).toNat)
   case atStart => exact ⟨0, Nat.zero_le _, rfl, fun m hm => absurd hm (by omega), K2.out⟩
   case round =>
    obtain ⟨k, hk, rfl, ha, hw⟩ := hrel
    obtain ⟨wo, hwo⟩ : ∃ x, x = wr := ⟨_, rfl⟩
    subst hwo
    have HA : Hid _ := ha
    have HWo : Hid (Nw W wo) := hw
    clear ha hw
    by_cases hlt : k < n
    ·have d1 : decide ((k : Int) < (n : Int)) = true := by simp; omega
     rcases (Lines.nw HR.out (Nw.trans NW.out HWo.out)) with h0 | ⟨b, off, rfl, hb, hc⟩
     ·have := HN.out; rw [h0] at this; simp at this; omega
     obtain ⟨⟨pa, pcc, q0, hP⟩, q1⟩ := hc k (by rw [HN.out]; exact hlt)
     have HPk : Hid (Pts wo pa (lnAt ls k).pts) := hP
     have hpl := HATL.out k hlt
     have HNF : Hid (nearsB (lnAt ls k).pts = false → nearL ls = false) := fun h => nearL_false (by rw [HN.out]; exact hlt) h
     have HNT : Hid (nearsB (lnAt ls k).pts = true → ∀ m, m < k + 1 → nearsB (lnAt ls m).pts = true) := fun h m hm => by
      rcases Nat.lt_succ_iff_lt_or_eq.1 hm with h1 | h1
      ·exact HA.out m h1
      ·rw [h1]; exact h
     clear hc hP
     generalize lnAt ls k = ll at *
     obtain ⟨pts, cl⟩ := ll
     simp only at q0 q1 HPk hpl HNF HNT
     obtain ⟨np, hnp⟩ : ∃ np, pts.length = np := ⟨_, rfl⟩
     have HNP : Hid (pts.length = np) := hnp
     rw [hnp] at q0 hpl
     clear hnp
     go_wp2
     go_loopw [29] (fun i wr => ∃ j : Nat, j ≤ np ∧ i = .int .i64 (j : Int) ∧ (∀ m, m < j → nearB (ptAt pts m) = true) ∧ Nw wo wr) (fun i _ => np - (intOf i).toNat)
     case atStart => exact ⟨0, Nat.zero_le _, rfl, fun m hm => absurd hm (by omega), Kp.nw ((Kp.refl wo).alloc _ _)⟩
     case round =>
      obtain ⟨j, hj, rfl, haj, hwj⟩ := hrel
      have HAJ : Hid _ := haj
      have HWJ : Hid (Nw wo wr) := hwj
      clear haj hwj
      by_cases hjlt : j < np
      ·have d3 : decide ((j : Int) < (np : Int)) = true := by simp; omega
       rcases (Pts.nw HPk.out HWJ.out) with h0 | ⟨b2, off2, hb2e, hb2, hc2⟩
       ·have := HNP.out; rw [h0] at this; simp at this; omega
       subst hb2e
       obtain ⟨r0, r1⟩ := hc2 j (by rw [HNP.out]; exact hjlt)
       clear hc2
       have HC : Hid (∀ w, _) := fun w => snear w (ptAt pts j).1 (ptAt pts j).2
       have ep : nearB ((ptAt pts j).1, (ptAt pts j).2) = nearB (ptAt pts j) := rfl
       rw [ep] at HC
       have HNB : Hid (nearB (ptAt pts j) = false → nearsB pts = false) := fun h => nears_not (j := j) (by rw [HNP.out]; exact hjlt) h
       have HNB2 : Hid (nearB (ptAt pts j) = true → ∀ m, m < j + 1 → nearB (ptAt pts m) = true) := fun h m hm => by
        rcases Nat.lt_succ_iff_lt_or_eq.1 hm with h1 | h1
        ·exact HAJ.out m h1
        ·rw [h1]; exact h
       generalize (ptAt pts j).1 = x at *
       generalize (ptAt pts j).2 = y at *
       clear ep
       cases hnb : nearB (ptAt pts j) with
       | false =>
        rw [hnb] at HC
        have HE : Hid (RV = ([], false)) := HNO2.out (HNF.out (HNB.out hnb))
        clear hnb
        go_wp2_with fail
        refine Calls.mono (HC.out _) ?_
        rintro e w5 ⟨rfl, k5⟩
        have N5 : Hid (Nw w w5) := Nw.trans NW.out (Nw.trans HWo.out (Nw.trans HWJ.out (Nw.trans (Kp.nw ((Kp.refl wr).alloc _ _)) (Kp.nw k5))))
        clear k5 r0 r1
        go_wp2
        go_ret2
        rw [HE.out]
        exact StS.no N5.out
       | true =>
        rw [hnb] at HC
        have HAL : Hid _ := HNB2.out hnb
        clear hnb
        go_wp2_with fail
        refine Calls.mono (HC.out _) ?_
        rintro e w5 ⟨rfl, k5⟩
        have N5 : Hid (Nw wo w5) := Nw.trans HWJ.out (Nw.trans (Kp.nw ((Kp.refl wr).alloc _ _)) (Kp.nw k5))
        clear k5 r0 r1
        go_wp2
        go_roundw
        case rel => exact ⟨j + 1, hjlt, by go_num, HAL.out, N5.out⟩
        case measure => simp [intOf]; omega
      ·obtain rfl : j = np := by omega
       have d3 : decide ((j : Int) < (j : Int)) = false := by simp
       have HAL : Hid (∀ m, m < k + 1 → nearsB (lnAt ls m).pts = true) := HNT.out (nears_all (fun m hm => HAJ.out m (by rw [HNP.out] at hm; exact hm)))
       go_wp2
       go_roundw
       case rel => exact ⟨k + 1, hlt, by go_num, HAL.out, Nw.trans HWo.out HWJ.out⟩
       case measure => simp [intOf]; omega
    ·obtain rfl : k = n := by omega
     have d1 : decide ((k : Int) < (k : Int)) = false := by simp
     have hnear : nearL ls = true := nearL_true (fun m hm => HA.out m (by rw [HN.out] at hm; exact hm))
     obtain ⟨x0, x1, x2, x3, x4⟩ := HPB.out wo HWo.out
     by_cases hz : pw = 0
     ·have HE : Hid (RV = ([], true)) := HZR2.out hnear hz
      subst hz
      have H0 : Hid (∀ w, _) := fun w => sstroke0 w a k c pj pc pf na nn nc
      go_wp2_with fail
      refine Calls.mono (H0.out _) ?_
      rintro e w5 ⟨rfl, n5⟩
      have N5 : Hid (Nw w w5) := Nw.trans NW.out (Nw.trans HWo.out n5)
      clear n5 x0 x1 x2 x3 x4
      go_wp2
      go_ret2
      rw [HE.out]
      exact ⟨_, rfl, LsOk.of (OwnLn.nil _ _) rfl, N5.out⟩
     ·have HS : Hid _ := HST2.out hnear hz wo (Nw.trans NW.out HWo.out)
      clear hz hnear
      go_wp2_with fail
      refine Calls.mono HS.out ?_
      rintro e w5 ⟨v5, o5, rfl, ⟨it5, ho5, he5⟩, himp, n5⟩
      have N5 : Hid (Nw w w5) := Nw.trans NW.out (Nw.trans HWo.out n5)
      have B5 : Hid (OwnLn w5 w.heap.size v5 it5) := OwnLn.base ho5 (Below.size (Nw.trans NW.out HWo.out))
      obtain ⟨ga, gn, gc, hv5⟩ := OwnQ.slice ho5.own
      subst hv5
      have HIM : Hid (RV.2 = true → it5.map (·.2) = RV.1) := fun h => he5.trans (himp h)
      clear ho5 he5 himp n5 x0 x1 x2 x3 x4
      cases hrv : RV.2 with
      | true =>
       have HI2 : Hid _ := HIM.out hrv
       have HRE : Hid (RV.2 = true) := hrv
       clear hrv
       go_wp2
       go_ret2
       exact ⟨_, by rw [HRE.out]; rfl, LsOk.of B5.out HI2.out, N5.out⟩
      | false =>
       have HRE : Hid (RV = ([], false)) := HFA.out hrv
       clear hrv
       go_wp2
       go_ret2
       rw [HRE.out]
       exact StS.no N5.out
  ·have d6 : decide ((600 : Int) < (manyL ls : Int)) = true := by simp; omega
   have HE : Hid (RV = ([], false)) := HNOV.out (fun h => h6 h.2.1)
   clear h6 hm
   generalize ls.length = n at *
   generalize manyL ls = mm at *
   go_enter Tryz.func11, Tryz.ntmps11
   go_wp2_with fail
   rw [HW.out]
   refine Calls.mono (HGP.out W NW.out) ?_
   rintro e w1 ⟨rfl, k1⟩
   have K1 : Hid (Nw W w1) := Kp.nw k1
   clear k1 y0 y1 y2 y3 y4
   go_wp2_with fail
   refine Calls.mono (HMY.out w1 (Nw.trans NW.out K1.out)) ?_
   rintro e w2 ⟨rfl, k2⟩
   have K2 : Hid (Nw w w2) := Nw.trans NW.out (Nw.trans K1.out (Kp.nw k2))
   clear k2
   go_wp2
   go_ret2
   rw [HE.out]
   exact StS.no K2.out
set_option maxRecDepth 100000 in
set_option maxHeartbeats 4000000 in
theorem igoodPen (w : World) (p : PD) (a : Option Addr) (c : Nat) (l : List Int) (hl : l.length ≤ 1048576) (hr : Ints w a l) :
  Calls Tryz.prog 41 #[penV p (.slice a l.length c)] w fun e w' => e = .returned (.bool (penB p l)) ∧ Kp w w' := by
 obtain ⟨pw, pj, pc, pf⟩ := p
 unfold penV penB
 simp only
 have k1 : ∀ o t, Kp w (w.alloc (.cells o t)) := fun o t => (Kp.refl w).alloc _ _
 have HD : Hid (∀ o t, _) := fun o t => igoodDash (w.alloc (.cells o t)) a c l pf hl (hr.nw (k1 o t).nw)
 have H1 : Hid _ := fun w => iin_any w pw 0 4194304
 have H2 : Hid _ := fun w => iin_any w pj 1 3
 have H3 : Hid _ := fun w => iin_any w pc 1 3
 clear hr
 generalize l.length = n at *
 generalize decide (0 ≤ pw ∧ pw ≤ 4194304) = b1 at *
 generalize decide (1 ≤ pj ∧ pj ≤ 3) = b2 at *
 generalize decide (1 ≤ pc ∧ pc ≤ 3) = b3 at *
 generalize dshB l pf = b4 at *
 cases b1 with
 | false =>
  go_enter Tryz.func41, Tryz.ntmps41
  go_wp2_with fail
  refine Calls.mono (H1.out _) ?_
  rintro e w9 ⟨rfl, rfl⟩
  go_wp2
  go_ret
  exact ⟨rfl, k1 _ _⟩
 | true =>
  rw [Bool.true_and]
  cases b2 with
  | false =>
   go_enter Tryz.func41, Tryz.ntmps41
   go_wp2_with fail
   refine Calls.mono (H1.out _) ?_
   rintro e w9 ⟨rfl, rfl⟩
   go_wp2_with fail
   refine Calls.mono (H2.out _) ?_
   rintro e w9 ⟨rfl, rfl⟩
   go_wp2
   go_ret
   exact ⟨rfl, k1 _ _⟩
  | true =>
   rw [Bool.true_and]
   cases b3 with
   | false =>
    go_enter Tryz.func41, Tryz.ntmps41
    go_wp2_with fail
    refine Calls.mono (H1.out _) ?_
    rintro e w9 ⟨rfl, rfl⟩
    go_wp2_with fail
    refine Calls.mono (H2.out _) ?_
    rintro e w9 ⟨rfl, rfl⟩
    go_wp2_with fail
    refine Calls.mono (H3.out _) ?_
    rintro e w9 ⟨rfl, rfl⟩
    go_wp2
    go_ret
    exact ⟨rfl, k1 _ _⟩
   | true =>
    rw [Bool.true_and]
    go_enter Tryz.func41, Tryz.ntmps41
    go_wp2_with fail
    refine Calls.mono (H1.out _) ?_
    rintro e w9 ⟨rfl, rfl⟩
    go_wp2_with fail
    refine Calls.mono (H2.out _) ?_
    rintro e w9 ⟨rfl, rfl⟩
    go_wp2_with fail
    refine Calls.mono (H3.out _) ?_
    rintro e w9 ⟨rfl, rfl⟩
    go_wp2_with fail
    refine Calls.mono (HD.out _ _) ?_
    rintro e w9 ⟨rfl, rfl⟩
    go_wp2
    go_ret
    exact ⟨rfl, k1 _ _⟩
def LinesC (w : World) (a : Option Addr) (l : List LD) : Prop :=
 l = [] ∨ ∃ b off, a = some ⟨b, off, none⟩ ∧ b < w.heap.size ∧ ∀ i, i < l.length → (∃ pa pc, w.cell? ⟨b, off + i * 2, none⟩ = some (.slice pa (lnAt l i).pts.length pc) ∧ (lnAt l i).pts.length ≤ pc ∧ Pts w pa (lnAt l i).pts) ∧ w.cell? ⟨b, off + i * 2 + 1, none⟩ = some (.bool (lnAt l i).closed)
theorem LinesC.nw {w w' : World} {a : Option Addr} {l : List LD} (h : LinesC w a l) (k : Nw w w') : LinesC w' a l := by
 rcases h with h | ⟨b, off, rfl, hb, hc⟩
 ·exact Or.inl h
 ·refine Or.inr ⟨b, off, rfl, Nat.lt_of_lt_of_le hb (Below.size k), fun i hi => ?_⟩
  obtain ⟨⟨pa, pc, h1, h2, h3⟩, h4⟩ := hc i hi
  exact ⟨⟨pa, pc, ((bcell k).1 _ _ hb).trans h1, h2, Pts.nw h3 k⟩, ((bcell k).1 _ _ hb).trans h4⟩
theorem LinesC.lines {w : World} {a : Option Addr} {l : List LD} (h : LinesC w a l) : Lines w a l := by
 rcases h with h | ⟨b, off, rfl, hb, hc⟩
 ·exact Or.inl h
 ·refine Or.inr ⟨b, off, rfl, hb, fun i hi => ?_⟩
  obtain ⟨⟨pa, pc, h1, h2, h3⟩, h4⟩ := hc i hi
  exact ⟨⟨pa, pc, h1, h3⟩, h4⟩
set_option maxRecDepth 100000 in
set_option maxHeartbeats 16000000 in
theorem istrokeLines (w : World) (a : Option Addr) (c : Nat) (ls : List LD) (p : PD) (na : Option Addr) (nc : Nat) (ns : List Int) (hl : ls.length ≤ 1048576) (hm : manyL ls ≤ 1048576) (hns : ns.length ≤ 1048576) (hr : LinesC w a ls) (hI : Ints w na ns) :
  Calls Tryz.prog 10 #[.slice a ls.length c, penV p (.slice na ns.length nc)] w fun e w' => StS w w' e (stkV ls p ns) := by
 have HGP : Hid (∀ w', Nw w w' → _) := fun w' k => igoodPen w' p na nc ns hns (Ints.nw hI k)
 have HMY : Hid (∀ w', Nw w w' → _) := fun w' k => imany w' a c ls hl hm (Lines.nw hr.lines k)
 have HNY : Hid (∀ w', Nw w w' → _) := fun w' k => inearL w' a c ls hl hm (Lines.nw hr.lines k)
 have HNOV : Hid (¬ (penB p ns = true ∧ manyL ls ≤ 600 ∧ nearL ls = true) → stkV ls p ns = ([], false)) := stkV_no
 have HZR : Hid (penB p ns = true → manyL ls ≤ 600 → nearL ls = true → p.w = 0 → stkV ls p ns = ([], true)) := fun h1 h2 h3 h4 => by unfold stkV; rw [if_pos ⟨h1, h2, h3⟩, if_pos h4]
 have HZ : Hid (∀ k, (lnAt ls k).pts.length = 0 → stK ls p ns (k + 1) = stK ls p ns k) := fun k h => stK_zero h
 have HNO : Hid (penB p ns = true → manyL ls ≤ 600 → nearL ls = true → p.w ≠ 0 → ∀ k, k < ls.length → (lnAt ls k).pts.length ≠ 0 → (dsV ns p.f (lnAt ls k).pts (lnAt ls k).closed).2 = false → stkV ls p ns = ([], false)) := fun a1 a2 a3 a4 k hk h1 h2 => stkV_none a1 a2 a3 a4 (show k + 1 ≤ ls.length by omega) (stK_no h1 h2)
 have HMN : Hid (penB p ns = true → manyL ls ≤ 600 → nearL ls = true → p.w ≠ 0 → ∀ k o m, k < ls.length → stK ls p ns k = some o → (lnAt ls k).pts.length ≠ 0 → (dsV ns p.f (lnAt ls k).pts (lnAt ls k).closed).2 = true → 4800 < manyL (o ++ strkS ((dsV ns p.f (lnAt ls k).pts (lnAt ls k).closed).1.take m) (p.w / 2) p.j p.c) → stkV ls p ns = ([], false)) := fun a1 a2 a3 a4 k o m hk h1 h2 h3 h4 => stkV_many a1 a2 a3 a4 hk h1 h2 h3 h4
 have HYES : Hid (∀ k o, stK ls p ns k = some o → (lnAt ls k).pts.length ≠ 0 → (dsV ns p.f (lnAt ls k).pts (lnAt ls k).closed).2 = true → stK ls p ns (k + 1) = some (o ++ strkS (dsV ns p.f (lnAt ls k).pts (lnAt ls k).closed).1 (p.w / 2) p.j p.c)) := fun k o h1 h2 h3 => stK_yes h1 h2 h3
 have HBD : Hid (manyL ls ≤ 600 → ∀ k o, k ≤ ls.length → stK ls p ns k = some o → o.length ≤ 720000) := fun h6 k o hk h => by
  obtain ⟨b1, b2⟩ := stK_bd ls p ns k o hk h
  have b3 := manyL_le ls k
  omega
 have HEND : Hid (penB p ns = true → manyL ls ≤ 600 → nearL ls = true → p.w ≠ 0 → ∀ o, stK ls p ns ls.length = some o → manyL o ≤ 4800 → stkV ls p ns = (o, true)) := fun a1 a2 a3 a4 o h h4 => by
  rw [stkV_is a1 a2 a3 a4, h]; simp only [if_pos h4]
 have HIN : Hid (penB p ns = true → manyL ls ≤ 600 → nearL ls = true → ∀ k, k < ls.length → (lnAt ls k).pts.length ≠ 0 → (lnAt ls k).pts.length ≤ 600 ∧ ∀ l, l ∈ (dsV ns p.f (lnAt ls k).pts (lnAt ls k).closed).1 → okSt l) := fun a1 a2 a3 k hk h => by
  have h1 := manyL_at ls k hk
  exact ⟨by omega, dsV_good _ (by omega) (nearL_at a3 k hk)⟩
 have HDL : Hid (∀ k, (dsV ns p.f (lnAt ls k).pts (lnAt ls k).closed).1.length ≤ 1048576 ∧ manyL (dsV ns p.f (lnAt ls k).pts (lnAt ls k).closed).1 ≤ 600) := fun k => dsV_bd _ _ _ _
 have HPW : Hid (penB p ns = true → 0 ≤ p.w ∧ p.w ≤ 4194304) := fun h => (penB_w h).1
 have HDS : Hid (∀ (w' : World) (pa : Option Addr) (pc : Nat) (pt : List Pnt) (cl : Bool), Nw w w' → pt.length ≤ 600 → pt.length ≤ pc → Pts w' pa pt → _) := fun w' pa pc pt cl k h1 h2 h3 => idashed w' pa pc pt cl na nc ns p.f (by omega) hns h2 h3 (Ints.nw hI k)
 obtain ⟨SK, hSK⟩ : ∃ SK, stK ls p ns = SK := ⟨_, rfl⟩
 have HS0 : Hid (SK 0 = some []) := by show _ = _; rw [← hSK]; rfl
 rw [hSK] at HZ HYES HBD HEND HMN
 obtain ⟨RV, hRV⟩ : ∃ RV, stkV ls p ns = RV := ⟨_, rfl⟩
 rw [hRV] at HNOV HZR HNO HMN HEND ⊢
 clear hSK hRV
 obtain ⟨PB', hPB⟩ : ∃ b, penB p ns = b := ⟨_, rfl⟩
 rw [hPB] at HGP HNOV HZR HNO HMN HEND HIN HPW
 clear hPB
 obtain ⟨NL, hNL⟩ : ∃ b, nearL ls = b := ⟨_, rfl⟩
 rw [hNL] at HNY HNOV HZR HNO HMN HEND HIN
 clear hNL
 have HR : Hid (LinesC w a ls) := hr
 clear hr hI
 obtain ⟨pw, pj, pc, pf⟩ := p
 simp only [penV] at *
 obtain ⟨W, hW⟩ : ∃ W, w.alloc (.cells #[.int .i64 pw, .int .i64 pj, .int .i64 pc, .slice na ns.length nc, .int .i64 pf] 36) = W := ⟨_, rfl⟩
 obtain ⟨bp, hbp⟩ : ∃ bp, w.heap.size = bp := ⟨_, rfl⟩
 have y0 : W.cell? ⟨bp, 0, none⟩ = some (.int .i64 pw) := by rw [← hW, ← hbp]; simp
 have y1 : W.cell? ⟨bp, 1, none⟩ = some (.int .i64 pj) := by rw [← hW, ← hbp]; simp
 have y2 : W.cell? ⟨bp, 2, none⟩ = some (.int .i64 pc) := by rw [← hW, ← hbp]; simp
 have y3 : W.cell? ⟨bp, 3, none⟩ = some (.slice na ns.length nc) := by rw [← hW, ← hbp]; simp
 have y4 : W.cell? ⟨bp, 4, none⟩ = some (.int .i64 pf) := by rw [← hW, ← hbp]; simp
 have HPB : Hid (∀ w', Nw W w' → (w'.cell? ⟨bp, 0, none⟩ = some (.int .i64 pw) ∧ w'.cell? ⟨bp, 1, none⟩ = some (.int .i64 pj) ∧ w'.cell? ⟨bp, 2, none⟩ = some (.int .i64 pc) ∧ w'.cell? ⟨bp, 3, none⟩ = some (.slice na ns.length nc) ∧ w'.cell? ⟨bp, 4, none⟩ = some (.int .i64 pf))) := fun w' k => ⟨nw_at k y0, nw_at k y1, nw_at k y2, nw_at k y3, nw_at k y4⟩
 have NW : Hid (Nw w W) := by show Nw _ _; rw [← hW]; exact (Below.refl _ _).alloc (Nat.le_refl _) _
 have HBP : Hid (w.heap.size = bp) := hbp
 have HW : Hid (_ = W) := hW
 clear hW
 have HST : Hid (0 ≤ pw ∧ pw ≤ 4194304 → ∀ (w' : World) (a : Option Addr) (c : Nat) (l : LD), okSt l → Pts w' a l.pts → _) := fun hp w' a c l hk hP => istroke w' a c l ⟨pw, pj, pc, pf⟩ (.slice na ns.length nc) ⟨_, _, _, rfl⟩ hk.1 hk.2.1 hk.2.2 hp.1 hp.2 hP
 simp only at HST
 obtain ⟨nn, hnn⟩ : ∃ nn, ns.length = nn := ⟨_, rfl⟩
 rw [hnn] at HPB HST HW HGP HDS y3 ⊢
 clear hnn hns
 have HSTR : Hid (∀ (w' w'' : World) (e : Ending), Nw w w' → StS w' w'' e RV → StS w w'' e RV) := fun w' w'' e k h => by
  obtain ⟨v, h1, ⟨it, h2, h3⟩, h4⟩ := h
  exact ⟨v, h1, LsOk.of (OwnLn.base h2 (Below.size k)) h3, Nw.trans k h4⟩
 cases PB' with
 | false =>
  have HE : Hid (RV = ([], false)) := HNOV.out (fun h => by cases h.1)
  generalize ls.length = n at *
  go_enter Tryz.func10, Tryz.ntmps10
  go_wp2_with fail
  rw [HW.out]
  refine Calls.mono (HGP.out W NW.out) ?_
  rintro e w1 ⟨rfl, k1⟩
  have N1 : Hid (Nw w w1) := Nw.trans NW.out (Kp.nw k1)
  clear k1
  go_wp2
  go_ret2
  rw [HE.out]
  exact StS.no N1.out
 | true =>
  by_cases h6 : manyL ls ≤ 600
  ·have d6 : decide ((600 : Int) < (manyL ls : Int)) = false := by simp; omega
   cases NL with
   | false =>
    have HE : Hid (RV = ([], false)) := HNOV.out (fun h => by cases h.2.2)
    clear h6 hm
    generalize ls.length = n at *
    generalize manyL ls = mm at *
    go_enter Tryz.func10, Tryz.ntmps10
    go_wp2_with fail
    rw [HW.out]
    refine Calls.mono (HGP.out W NW.out) ?_
    rintro e w1 ⟨rfl, k1⟩
    have K1 : Hid (Nw W w1) := Kp.nw k1
    clear k1 y0 y1 y2 y3 y4
    go_wp2_with fail
    refine Calls.mono (HMY.out w1 (Nw.trans NW.out K1.out)) ?_
    rintro e w2 ⟨rfl, k2⟩
    have K2 : Hid (Nw w w2) := Nw.trans NW.out (Nw.trans K1.out (Kp.nw k2))
    clear k2
    go_wp2_with fail
    refine Calls.mono (HNY.out w2 K2.out) ?_
    rintro e w3 ⟨rfl, k3⟩
    have K3 : Hid (Nw w w3) := Nw.trans K2.out (Kp.nw k3)
    clear k3
    go_wp2
    go_ret2
    rw [HE.out]
    exact StS.no K3.out
   | true =>
    by_cases hz : pw = 0
    ·have HE : Hid (RV = ([], true)) := HZR.out rfl h6 rfl hz
     have d0 : (pw == 0) = true := by simp [hz]
     clear h6 hm hz
     generalize ls.length = n at *
     generalize manyL ls = mm at *
     go_enter Tryz.func10, Tryz.ntmps10
     go_wp2_with fail
     rw [HW.out]
     refine Calls.mono (HGP.out W NW.out) ?_
     rintro e w1 ⟨rfl, k1⟩
     have K1 : Hid (Nw W w1) := Kp.nw k1
     clear k1 y0 y1 y2 y3 y4
     go_wp2_with fail
     refine Calls.mono (HMY.out w1 (Nw.trans NW.out K1.out)) ?_
     rintro e w2 ⟨rfl, k2⟩
     have K2 : Hid (Nw W w2) := Nw.trans K1.out (Kp.nw k2)
     clear k2
     go_wp2_with fail
     refine Calls.mono (HNY.out w2 (Nw.trans NW.out K2.out)) ?_
     rintro e w3 ⟨rfl, k3⟩
     have K3 : Hid (Nw W w3) := Nw.trans K2.out (Kp.nw k3)
     obtain ⟨x0, _⟩ := HPB.out w3 K3.out
     clear k3
     go_wp2
     go_ret2
     rw [HE.out]
     exact ⟨_, rfl, LsOk.of (OwnLn.nil _ _) rfl, Nw.trans NW.out K3.out⟩
    ·have d0 : (pw == 0) = false := by simp [hz]
     have HNOa : Hid _ := HNO.out rfl h6 rfl hz
     have HMNa : Hid _ := HMN.out rfl h6 rfl hz
     have HBDa : Hid _ := HBD.out h6
     have HENDa : Hid _ := HEND.out rfl h6 rfl hz
     have HINa : Hid _ := HIN.out rfl h6 rfl
     have HSTa : Hid _ := HST.out (HPW.out rfl)
     clear h6 hm hz HNO HMN HBD HEND HIN HST HZR HNOV
     generalize hh : pw / 2 = h at *
     clear hh
     obtain ⟨n, hn⟩ : ∃ n, ls.length = n := ⟨_, rfl⟩
     have HN : Hid (ls.length = n) := hn
     rw [hn] at HMY HNY HNOa HMNa HBDa HENDa HINa hl ⊢
     clear hn
     generalize manyL ls = mm at *
     go_enter Tryz.func10, Tryz.ntmps10
     go_wp2_with fail
     rw [HW.out]
     refine Calls.mono (HGP.out W NW.out) ?_
     rintro e w1 ⟨rfl, k1⟩
     have K1 : Hid (Nw W w1) := Kp.nw k1
     clear k1 y0 y1 y2 y3 y4
     go_wp2_with fail
     refine Calls.mono (HMY.out w1 (Nw.trans NW.out K1.out)) ?_
     rintro e w2 ⟨rfl, k2⟩
     have K2 : Hid (Nw W w2) := Nw.trans K1.out (Kp.nw k2)
     clear k2
     go_wp2_with fail
     refine Calls.mono (HNY.out w2 (Nw.trans NW.out K2.out)) ?_
     rintro e w3 ⟨rfl, k3⟩
     have K3 : Hid (Nw W w3) := Nw.trans K2.out (Kp.nw k3)
     obtain ⟨x0, _⟩ := HPB.out w3 K3.out
     clear k3
     obtain ⟨W4, hW4⟩ : ∃ W4, w3.alloc (.cells #[.slice none 0 0] 65) = W4 := ⟨_, rfl⟩
     obtain ⟨bx, hbx⟩ : ∃ bx, w3.heap.size = bx := ⟨_, rfl⟩
     have z0 : W4.cell? ⟨bx, 0, none⟩ = some (.slice none 0 0) := by rw [← hW4, ← hbx]; simp
     have zf : W4.frozen? ⟨bx, 0, none⟩ = false := by rw [← hW4, ← hbx]; exact World.frozen?_alloc_at _ _ _ _ rfl
     have n34 : Nw w3 W4 := by rw [← hW4]; exact (Below.refl _ _).alloc (Nat.le_refl _) _
     have S4 : Hid (W4.cell? ⟨bx, 0, none⟩ = some (.slice none 0 0) ∧ W4.frozen? ⟨bx, 0, none⟩ = false ∧ Nw W W4 ∧ w3.heap.size = bx ∧ W.heap.size ≤ bx) := ⟨z0, zf, Nw.trans K3.out n34, hbx, by rw [← hbx]; exact Below.size K3.out⟩
     have HW4 : Hid (_ = W4) := hW4
     clear hW4 n34
     go_upto_region 6 with fail
     rw [HW4.out]
     clear z0 zf x0 HW4
     go_wp2
     go_loopw [33, 7] (fun i q wr => ∃ (k : Nat) (it : Its) (v : Value), k ≤ n ∧ i = .int .i64 (k : Int) ∧ q = .int .i64 (manyL (it.map (·.2)) : Int) ∧ manyL (it.map (·.2)) ≤ 4800 ∧ wr.cell? ⟨bx, 0, none⟩ = some v ∧ wr.frozen? ⟨bx, 0, none⟩ = false ∧ OwnLn wr (bx + 1) v it ∧ SK k = some (it.map (·.2)) ∧ Nw W wr) (fun i _ _ => n - (intOf i).toNat)
     case atStart => exact ⟨0, [], _, Nat.zero_le _, rfl, rfl, by simp [manyL], S4.out.1, S4.out.2.1, OwnLn.nil _ _, HS0.out, S4.out.2.2.1⟩
     case round =>
      obtain ⟨k, it, v, hk, rfl, rfl, h48, z0, zf, ho, he, hw⟩ := hrel
      obtain ⟨wo, hwo⟩ : ∃ x, x = wr := ⟨_, rfl⟩
      subst hwo
      have HE : Hid (SK k = some (it.map (·.2))) := he
      have HO : Hid (OwnLn wo (bx + 1) v it) := ho
      have HWo : Hid (Nw W wo) := hw
      obtain ⟨M, hM⟩ : ∃ M, manyL (it.map (·.2)) = M := ⟨_, rfl⟩
      have HM : Hid (manyL (it.map (·.2)) = M) := hM
      rw [hM] at h48 ⊢
      clear hM
      have hil : it.length ≤ 720000 := by have := HBDa.out k _ hk he; rw [List.length_map] at this; exact this
      obtain ⟨va, vn, vc, hv⟩ := OwnQ.slice ho.own
      subst hv
      have Z0 : Hid (wo.cell? ⟨bx, 0, none⟩ = some (.slice va vn vc) ∧ wo.frozen? ⟨bx, 0, none⟩ = false ∧ bx < wo.heap.size) := ⟨z0, zf, World.block_lt_of_cell? wo ⟨bx, 0, none⟩ z0⟩
      clear ho hw he
      by_cases hlt : k < n
      ·have d1 : decide ((k : Int) < (n : Int)) = true := by simp; omega
       rcases (LinesC.nw HR.out (Nw.trans NW.out HWo.out)) with h0 | ⟨b, off, rfl, hb, hc⟩
       ·have := HN.out; rw [h0] at this; simp at this; omega
       obtain ⟨⟨pa, pcc, q0, hcap, hP⟩, q1⟩ := hc k (by rw [HN.out]; exact hlt)
       have HPk : Hid (Pts wo pa (lnAt ls k).pts) := hP
       have HZk := HZ.out k
       have HNOk : Hid _ := HNOa.out k hlt
       have HYk : Hid _ := HYES.out k
       have HINk : Hid _ := HINa.out k hlt
       have HDLk := HDL.out k
       have HMNk : Hid (∀ m, _) := fun m => HMNa.out k _ m hlt HE.out
       clear hc hP HZ HNOa HYES HINa HDL HMNa
       generalize lnAt ls k = ll at *
       obtain ⟨pts, cl⟩ := ll
       simp only at q0 q1 HPk HZk HNOk HYk HINk HDLk hcap HMNk
       by_cases hz : pts.length = 0
       ·have HZZ : Hid (SK (k + 1) = SK k) := HZk hz
        rw [hz] at q0
        clear HZk z0 zf
        have na1 : Nw wo (wo.alloc (.cells #[.slice pa 0 pcc, .bool cl] 25)) := Kp.nw ((Kp.refl wo).alloc _ _)
        have R1 : Hid _ := And.intro (nw_at na1 Z0.out.1) (And.intro (((bcell na1).2 _ _ Z0.out.2.2).trans Z0.out.2.1) (And.intro (OwnLn.nw HO.out na1) (Nw.trans HWo.out na1)))
        clear na1
        go_wp2
        go_roundw
        case rel => exact ⟨k + 1, it, _, hlt, by go_num, by rw [HM.out], by rw [HM.out]; exact h48, R1.out.1, R1.out.2.1, R1.out.2.2.1, by rw [HZZ.out]; exact HE.out, R1.out.2.2.2⟩
        case measure => simp [intOf]; omega
       ·obtain ⟨hp6, hok⟩ := HINk.out hz
        have hbx := Z0.out.2.2
        obtain ⟨W5, hW5⟩ : ∃ W5, wo.alloc (.cells #[.slice pa pts.length pcc, .bool cl] 25) = W5 := ⟨_, rfl⟩
        have n5 : Nw wo W5 := by rw [← hW5]; exact Kp.nw ((Kp.refl wo).alloc _ _)
        have HD : Hid _ := HDS.out W5 pa pcc pts cl (Nw.trans NW.out (Nw.trans HWo.out n5)) hp6 hcap (Pts.nw HPk.out n5)
        have d2 : ((pts.length : Int) == 0) = false := beq_eq_false_iff_ne.2 (by omega)
        obtain ⟨x0, x1, x2, x3, x4⟩ := HPB.out wo HWo.out
        have hbpw : bp < wo.heap.size := World.block_lt_of_cell? wo ⟨bp, 0, none⟩ x0
        have HOK : Hid _ := hok
        have HNZ : Hid (¬ pts.length = 0) := hz
        have HW5 : Hid (_ = W5) := hW5
        have N5 : Hid (Nw wo W5) := n5
        clear hok hW5 n5 HINk HPk HZk hcap HDS
        cases hds : (dsV ns pf pts cl).2 with
        | false =>
         have HRE : Hid (RV = ([], false)) := HNOk.out HNZ.out hds
         rw [hds] at HD
         clear hds hz HMNk HYk HNOk
         generalize pts.length = np at *
         go_wp2_with fail
         rw [HW5.out]
         refine Calls.mono HD.out ?_
         rintro e w6 ⟨v6, rfl, _, n6⟩
         have N6 : Hid (Nw w w6) := Nw.trans NW.out (Nw.trans HWo.out (Nw.trans N5.out n6))
         obtain ⟨sa, sn, sc, hv6⟩ : ∃ a b c, v6 = Value.slice a b c := by
          rename_i hls
          obtain ⟨_, h1, _⟩ := hls
          exact OwnQ.slice h1.own
         subst hv6
         clear n6
         go_wp2
         go_ret2
         rw [HRE.out]
         exact StS.no N6.out
        | true =>
         rw [hds] at HD
         have HSK : Hid _ := HYk.out _ HE.out HNZ.out hds
         have HMNm : Hid (∀ m, _) := fun m => HMNk.out m HNZ.out hds
         generalize (dsV ns pf pts cl).1 = ds at *
         clear hds hz HNOk HYk HMNk
         generalize pts.length = np at *
         go_wp2_with fail
         rw [HW5.out]
         refine Calls.mono HD.out ?_
         rintro e w6 ⟨v6, rfl, ⟨itd, od, hed⟩, n6⟩
         obtain ⟨da, dc, hv6, _⟩ := OwnLn.lines od
         rw [hed] at hv6
         have OD : Hid (OwnLn w6 W5.heap.size v6 itd) := od
         have HED : Hid (itd.map (·.2) = ds) := hed
         have NO6 : Hid (Nw wo w6) := Nw.trans N5.out n6
         have S56 : Hid (wo.heap.size ≤ W5.heap.size ∧ W5.heap.size ≤ w6.heap.size) := ⟨Below.size N5.out, Below.size n6⟩
         obtain ⟨nd, hnd⟩ : ∃ nd, ds.length = nd := ⟨_, rfl⟩
         have HND : Hid (ds.length = nd) := hnd
         rw [hnd] at hv6 HDLk
         subst hv6
         clear od hed n6 hnd x0 x1 x2 x3 x4 HD q0 q1 z0 zf
         go_wp2
         go_loopw [54, 7] (fun i q wr => ∃ (m : Nat) (it' : Its) (v : Value), m ≤ nd ∧ i = .int .i64 (m : Int) ∧ q = .int .i64 (manyL (it'.map (·.2)) : Int) ∧ manyL (it'.map (·.2)) ≤ 4800 ∧ wr.cell? ⟨bx, 0, none⟩ = some v ∧ wr.frozen? ⟨bx, 0, none⟩ = false ∧ OwnLn wr (bx + 1) v it' ∧ it'.map (·.2) = it.map (·.2) ++ strkS (ds.take m) h pj pc ∧ Nw W wr ∧ Kin W5.heap.size w6.heap.size w6 wr ∧ (∀ b, v.ownBlock = some b → b < W5.heap.size ∨ w6.heap.size ≤ b)) (fun i _ _ => nd - (intOf i).toNat)
         case atStart =>
          refine ⟨0, it, .slice va vn vc, Nat.zero_le _, rfl, by rw [HM.out], by rw [HM.out]; exact h48, nw_at NO6.out Z0.out.1, ((bcell NO6.out).2 _ _ Z0.out.2.2).trans Z0.out.2.1, OwnLn.nw HO.out NO6.out, by simp [strkS], Nw.trans HWo.out NO6.out, Kin.refl _ _ _, fun b hb => Or.inl ?_⟩
          have h1 := (OwnQ.lt HO.out.own b hb).2
          have h2 := S56.out.1
          omega
         case round =>
          obtain ⟨m, it', v', hm', rfl, rfl, h48', z0', zf', ho', he', hw', hkin, hbl⟩ := hrel
          have HE' : Hid _ := he'
          have HO' : Hid (OwnLn wr (bx + 1) v' it') := ho'
          have HW' : Hid (Nw W wr) := hw'
          have HK' : Hid (Kin W5.heap.size w6.heap.size w6 wr) := hkin
          have HBL' : Hid _ := hbl
          have Z1 : Hid (wr.cell? ⟨bx, 0, none⟩ = some v' ∧ wr.frozen? ⟨bx, 0, none⟩ = false ∧ bx < wr.heap.size) := ⟨z0', zf', World.block_lt_of_cell? wr ⟨bx, 0, none⟩ z0'⟩
          obtain ⟨M', hM'⟩ : ∃ M, manyL (it'.map (·.2)) = M := ⟨_, rfl⟩
          have HM' : Hid (manyL (it'.map (·.2)) = M') := hM'
          rw [hM'] at h48' ⊢
          obtain ⟨ua, un, uc, hu⟩ := OwnQ.slice ho'.own
          clear ho' he' hw' hkin hbl hM' z0' zf'
          by_cases hmlt : m < nd
          ·have d3 : decide ((m : Int) < (nd : Int)) = true := by simp; omega
           have odk := OwnLn.kin OD.out HK'.out (Nat.le_refl _)
           obtain ⟨da', dc', hda, hLn⟩ := OwnLn.lines odk
           rw [HED.out] at hda hLn
           have e0 : da = da' := by injection hda
           rw [← e0] at hLn
           clear hda e0
           rcases hLn with h0 | ⟨b2, off2, hda2, hb2, hc2⟩
           ·have := HND.out; rw [h0] at this; simp at this; omega
           subst hda2
           obtain ⟨⟨pa2, pc2, r0, hP2⟩, r1⟩ := hc2 m (by rw [HND.out]; exact hmlt)
           have hok2 := HOK.out (lnAt ds m) (lnAt_mem (by rw [HND.out]; exact hmlt))
           have HSS : Hid (strkS (ds.take (m + 1)) h pj pc = strkS (ds.take m) h pj pc ++ strkL (lnAt ds m) h pj pc) := strkS_succ ds h pj pc m (by rw [HND.out]; exact hmlt)
           have hll : it'.length ≤ 730000 := by
            have e1 := congrArg List.length HE'.out
            rw [List.length_map, List.length_append, List.length_map] at e1
            have e2 := strkS_take_len ds h pj pc m
            have e3 := HDLk.2
            omega
           have hsl := strkL_len (lnAt ds m) h pj pc
           have hsm := (slim_strk (lnAt ds m) h pj pc).many
           have hs6 := hok2.2.1
           obtain ⟨x0, x1, x2, x3, x4⟩ := HPB.out wr HW'.out
           have hbpw2 : bp < wr.heap.size := World.block_lt_of_cell? wr ⟨bp, 0, none⟩ x0
           generalize lnAt ds m = dl at *
           obtain ⟨dpts, dcl⟩ := dl
           simp only at r0 r1 hP2 hok2 hsl hs6 hsm
           obtain ⟨W7, hW7⟩ : ∃ W7, wr.alloc (.cells #[.slice pa2 dpts.length pc2, .bool dcl] 25) = W7 := ⟨_, rfl⟩
           have n7 : Nw wr W7 := by rw [← hW7]; exact Kp.nw ((Kp.refl wr).alloc _ _)
           have HLL : Hid _ := HSTa.out W7 pa2 pc2 ⟨dpts, dcl⟩ hok2 (Pts.nw hP2 n7)
           simp only at HLL
           have N7 : Hid (Nw wr W7) := n7
           have HSL : Hid ((strkL ⟨dpts, dcl⟩ h pj pc).length ≤ 1200 ∧ manyL (strkL ⟨dpts, dcl⟩ h pj pc) ≤ 38400) := ⟨by omega, by omega⟩
           have HLT : Hid (it'.length ≤ 730000) := hll
           have HW7 : Hid (_ = W7) := hW7
           generalize strkL ⟨dpts, dcl⟩ h pj pc = ST at *
           clear hP2 hok2 hsl hs6 hsm hc2 odk n7 hW7 hll
           generalize dpts.length = dn at *
           go_wp2_with fail
           rw [HW7.out]
           refine Calls.mono HLL.out ?_
           rintro e w8 ⟨v8, rfl, ⟨it8, o8, e8⟩, n8⟩
           obtain ⟨ga, gc, hv8, _⟩ := OwnLn.lines o8
           have O8 : Hid (OwnLn w8 W7.heap.size v8 it8) := o8
           have E8 : Hid (it8.map (·.2) = ST) := e8
           have N8 : Hid (Nw wr w8) := Nw.trans N7.out n8
           have L8 : Hid (it8.length ≤ 1200) := by show _ ≤ _; have := congrArg List.length e8; rw [List.length_map] at this; have := HSL.out.1; omega
           have S7 : Hid (wr.heap.size ≤ W7.heap.size ∧ W7.heap.size ≤ w8.heap.size) := ⟨Below.size N7.out, Below.size n8⟩
           have hne : v'.ownBlock ≠ some bx := fun e => by have := (OwnQ.lt HO'.out.own bx e).1; omega
           have HA : Hid _ := iaddLns w8 bx 0 (bx + 1) W7.heap.size v' v8 it' it8 (nw_at N8.out Z1.out.1) (((bcell N8.out).2 _ _ Z1.out.2.2).trans Z1.out.2.1) (OwnQ.nw HO'.out.own N8.out) O8.out.own O8.out.its.one (by have h1 := HLT.out; have h2 := L8.out; omega) (by have h1 := Z1.out.2.2; have h2 := Below.size N8.out; omega) hne
           have HNE : Hid (v'.ownBlock ≠ some bx) := hne
           rw [e8] at hv8
           obtain ⟨gn, hgn⟩ : ∃ gn, ST.length = gn := ⟨_, rfl⟩
           have HGN : Hid (ST.length = gn) := hgn
           rw [hgn] at hv8
           subst hv8
           clear o8 e8 n8 r0 r1 x0 x1 x2 x3 x4 HLL hne hgn
           go_wp2_with fail
           refine Calls.mono HA.out ?_
           rintro e w10 ⟨rfl, v9, w9, o9, x9, hw10⟩
           have hbx8 : bx < w8.heap.size := by have h1 := Z1.out.2.2; have h2 := Below.size N8.out; omega
           have hne9 : v9.ownBlock ≠ some bx := Ext.apart x9 hbx8 HNE.out
           have s0 : w10.cell? ⟨bx, 0, none⟩ = some v9 := by rw [hw10]; exact World.cell?_setCell_same w9 ⟨bx, 0, none⟩ _ ((Ext.cell x9 hbx8 HNE.out 0).trans (nw_at N8.out Z1.out.1))
           have s1 : w10.frozen? ⟨bx, 0, none⟩ = false := by
            rw [hw10, World.frozen?_setCell]
            exact (World.frozen?_of_block (w := w8) (a := ⟨bx, 0, none⟩) (x9.1.block _ hbx8 (fun e => HNE.out e.symm))).trans (((bcell N8.out).2 _ _ Z1.out.2.2).trans Z1.out.2.1)
           have hB' : bx + 1 ≤ wr.heap.size := Z1.out.2.2
           have O10 : Hid (OwnLn w10 (bx + 1) v9 (it' ++ it8)) := by
            show OwnLn _ _ _ _
            rw [hw10]
            exact OwnLn.farSet (OwnLn.puts (u := .slice none 0 0) HO'.out N8.out hB' (ItsOk.base O8.out.its S7.out.1) o9 x9) bx 0 v9 (Nat.lt_succ_self _)
           have hWb : W.heap.size ≤ bx := S4.out.2.2.2.2
           have N10 : Hid (Nw W w10) := by
            show Nw _ _
            rw [hw10]
            have b1 : Below W.heap.size w8 w9 := Ext.below x9 (fun g hg => by have := (OwnQ.lt HO'.out.own g hg).1; omega) (by omega)
            exact Below.setCell (Below.trans (Nw.trans HW'.out N8.out) b1) hWb _
           have hvlt : ∀ b, v'.ownBlock = some b → b < wr.heap.size := fun b hb => (OwnQ.lt HO'.out.own b hb).2
           have s78 := S7.out
           have hk6 := HK'.out.1
           have s68 : w6.heap.size ≤ w8.heap.size := by omega
           have hbx5 : bx < W5.heap.size := by have h1 := Z0.out.2.2; have h2 := S56.out.1; omega
           have K10 : Hid (Kin W5.heap.size w6.heap.size w6 w10) := by
            show Kin _ _ _ _
            rw [hw10]
            exact Kin.trans HK'.out (Kin.trans (Kin.nw N8.out hk6) (Kin.trans (Kin.ext x9 s68 HBL'.out) (Kin.set v9 (Or.inl hbx5))))
           have B10 : Hid (∀ b, v9.ownBlock = some b → b < W5.heap.size ∨ w6.heap.size ≤ b) := fun b hb => by
            rcases x9.2 with h4 | ⟨g, h4, h5⟩
            ·rw [h4] at hb; exact HBL'.out b hb
            ·rw [h4] at hb; injection hb with hb; omega
           have O8' : OwnLn w10 W7.heap.size (.slice ga gn gc) it8 := by
            rw [hw10]
            exact OwnLn.kin O8.out (Kin.trans (Kin.ext (hi := w8.heap.size) x9 (Nat.le_refl _) (fun b hb => Or.inl (by have := hvlt b hb; omega))) (Kin.set v9 (Or.inl (by omega)))) (Nat.le_refl _)
           obtain ⟨ga', gc', hga, hLn8⟩ := OwnLn.lines O8'
           rw [E8.out] at hga hLn8
           have e1 : ga = ga' := by injection hga
           rw [← e1] at hLn8
           have HMP := imany w10 ga gc ST (by have := HSL.out.1; omega) (by have := HSL.out.2; omega) hLn8
           rw [HGN.out] at HMP
           have HMPP : Hid _ := HMP
           have SS : Hid _ := And.intro s0 s1
           have hms : manyL (it'.map (·.2) ++ ST) = M' + manyL ST := by rw [manyL_app', HM'.out]
           have HMS : Hid (manyL ((it' ++ it8).map (·.2)) = M' + manyL ST) := by show _ = _; rw [List.map_append, E8.out]; exact hms
           have hmst := HSL.out.2
           have HTK : Hid ((it' ++ it8).map (·.2) = it.map (·.2) ++ strkS (ds.take (m + 1)) h pj pc) := by show _ = _; rw [List.map_append, HE'.out, E8.out, HSS.out, List.append_assoc]
           have HMB := HMNm.out (m + 1)
           rw [← HTK.out, HMS.out] at HMB
           have HMBH : Hid _ := HMB
           clear s0 s1 o9 x9 hne9 hLn8 O8' hga e1 hms HMB HMP hw10 hB' hWb hvlt s78 hk6 s68
           generalize manyL ST = ms at *
           go_wp2_with fail
           refine Calls.mono HMPP.out ?_
           rintro e w11 ⟨rfl, k11⟩
           have N11 : Hid (Nw w10 w11) := Kp.nw k11
           clear k11
           by_cases hbig : 4800 < M' + ms
           ·have d4 : decide ((4800 : Int) < (M' : Int) + (ms : Int)) = true := by simp; omega
            have HRE : Hid (RV = ([], false)) := HMBH.out hbig
            go_wp2
            go_ret2
            rw [HRE.out]
            exact StS.no (Nw.trans NW.out (Nw.trans N10.out N11.out))
           ·have d4 : decide ((4800 : Int) < (M' : Int) + (ms : Int)) = false := by simp; omega
            have R11 : Hid _ := And.intro (nw_at N11.out SS.out.1) (And.intro (((bcell N11.out).2 _ _ (World.block_lt_of_cell? w10 ⟨bx, 0, none⟩ SS.out.1)).trans SS.out.2) (And.intro (OwnLn.nw O10.out N11.out) (And.intro (Nw.trans N10.out N11.out) (Kin.trans K10.out (Kin.nw N11.out K10.out.1)))))
            go_wp2
            go_roundw
            case rel => exact ⟨m + 1, it' ++ it8, v9, hmlt, by go_num, by rw [HMS.out]; go_num, by rw [HMS.out]; omega, R11.out.1, R11.out.2.1, R11.out.2.2.1, HTK.out, R11.out.2.2.2.1, R11.out.2.2.2.2, B10.out⟩
            case measure => simp [intOf]; omega
          ·obtain rfl : m = nd := by omega
           have d3 : decide ((m : Int) < (m : Int)) = false := by simp
           have HTK : Hid (ds.take m = ds) := by show _ = _; rw [← HND.out, List.take_length]
           go_wp2
           go_roundw
           case rel => exact ⟨k + 1, it', v', hlt, by go_num, by rw [HM'.out], by rw [HM'.out]; exact h48', Z1.out.1, Z1.out.2.1, HO'.out, by rw [HSK.out, HE'.out, HTK.out], HW'.out⟩
           case measure => simp [intOf]; omega
      ·obtain rfl : k = n := by omega
       have d1 : decide ((k : Int) < (k : Int)) = false := by simp
       have HRE : Hid (RV = (it.map (·.2), true)) := HENDa.out _ HE.out (by rw [HM.out]; exact h48)
       go_wp2
       go_ret2
       rw [HRE.out]
       exact ⟨_, rfl, LsOk.of (OwnLn.base HO.out (by have := S4.out.2.2.2.2; have := Below.size NW.out; omega)) rfl, Nw.trans NW.out HWo.out⟩
  ·have d6 : decide ((600 : Int) < (manyL ls : Int)) = true := by simp; omega
   have HE : Hid (RV = ([], false)) := HNOV.out (fun h => h6 h.2.1)
   clear h6 hm
   generalize ls.length = n at *
   generalize manyL ls = mm at *
   go_enter Tryz.func10, Tryz.ntmps10
   go_wp2_with fail
   rw [HW.out]
   refine Calls.mono (HGP.out W NW.out) ?_
   rintro e w1 ⟨rfl, k1⟩
   have K1 : Hid (Nw W w1) := Kp.nw k1
   clear k1 y0 y1 y2 y3 y4
   go_wp2_with fail
   refine Calls.mono (HMY.out w1 (Nw.trans NW.out K1.out)) ?_
   rintro e w2 ⟨rfl, k2⟩
   have K2 : Hid (Nw w w2) := Nw.trans NW.out (Nw.trans K1.out (Kp.nw k2))
   clear k2
   go_wp2
   go_ret2
   rw [HE.out]
   exact StS.no K2.out
theorem OwnQ.mid {T : TypeId} {w w' : World} {B lo hi : Nat} {v : Value} {l : List VV} (h : OwnQ T w B v l) (k : Mid lo hi w w') (hh : hi ≤ B) : OwnQ T w' B v l := by
 refine ⟨h.1, ?_⟩
 rcases h.2 with hn | ⟨g, cap, cur, rfl, hb, hgg, rest⟩
 ·exact .inl hn
 ·refine .inr ⟨g, cap, cur, rfl, hb, ?_, rest⟩
  rw [k.block g (Array.getElem?_eq_some_iff.1 hgg).1 (Or.inr (by omega))]
  exact hgg
theorem OwnLn.mid {w w' : World} {B lo hi : Nat} {v : Value} {it : Its} (h : OwnLn w B v it) (k : Mid lo hi w w') (hh : hi ≤ B) : OwnLn w' B v it :=
 ⟨OwnQ.mid h.own k hh, fun i hi => OwnQ.mid (h.pts i hi) k hh, h.far, h.apart⟩
theorem kAt_sum (it : Its) (K : Nat) : ∀ i, i ≤ it.length → kAt (nsOf it) K i = K + 2 * manyL ((it.map (·.2)).take i) + i
 | 0, _ => by simp [kAt, manyL]
 | i + 1, h => by
  have ih := kAt_sum it K i (by omega)
  have hs := manyL_step (it.map (·.2)) i (by simp; omega)
  rw [ld_at it i (by omega)] at hs
  simp only [kAt]
  rw [ih, nsOf_at it i (by omega), hs]
  omega
theorem kAt_all (it : Its) (K : Nat) : kAt (nsOf it) K it.length = K + 2 * manyL (it.map (·.2)) + it.length := by
 have h := kAt_sum it K it.length (Nat.le_refl _)
 rw [List.take_of_length_le (by simp)] at h
 exact h
theorem nsOf_le (it : Its) (i : Nat) (h : i < it.length) : nAt (nsOf it) i ≤ manyL (it.map (·.2)) := by
 rw [nsOf_at it i h, ← ld_at it i h]
 exact manyL_at _ i (by simpa using h)
def MkdL (w : World) (v : Value) (it : Its) (K : Nat) : Prop := (v = .slice none 0 0 ∧ it = []) ∨ ∃ g c, v = .slice (some ⟨g, 0, none⟩) it.length c ∧ MkLn w g (vsOf it) (nsOf it) K it.length
theorem Mkd.nwL {w w' : World} {v : Value} {n K : Nat} (h : Mkd w v n K) (k : Nw w w') : Mkd w' v n K := h.nw k
theorem AnyPt.nwL {w w' : World} {g n : Nat} (h : AnyPt w g n) (k : Nw w w') : AnyPt w' g n :=
 ⟨Nat.lt_of_lt_of_le h.1 (Below.size k), fun i hi => by obtain ⟨⟨x, hx⟩, y, hy⟩ := h.2.1 i hi; exact ⟨⟨x, ((bcell k).1 _ _ h.1).trans hx⟩, y, ((bcell k).1 _ _ h.1).trans hy⟩, fun o => ((bcell k).2 _ _ h.1).trans (h.2.2 o)⟩
theorem AnyV.nwL {w w' : World} {v : Value} {n : Nat} (h : AnyV w v n) (k : Nw w w') : AnyV w' v n := by
 rcases h with h | ⟨g, c, h1, h2⟩
 ·exact Or.inl h
 ·exact Or.inr ⟨g, c, h1, h2.nwL k⟩
theorem MkLn.nw {w w' : World} {g K j : Nat} {vs : List Value} {ns : List Nat} (h : MkLn w g vs ns K j) (k : Nw w w') : MkLn w' g vs ns K j :=
 ⟨Nat.lt_of_lt_of_le h.lt (Below.size k), fun o => ((bcell k).2 _ _ h.lt).trans (h.free o), fun i hi => ((bcell k).1 _ _ h.lt).trans (h.sl i hi), fun i a b => ((bcell k).1 _ _ h.lt).trans (h.c1 i a b),
  fun i a b => by obtain ⟨x, hx⟩ := h.c2 i a b; exact ⟨x, ((bcell k).1 _ _ h.lt).trans hx⟩, fun i a b => (h.p1 i a b).nwL k, fun i a b => (h.p2 i a b).nwL k⟩
theorem MkdL.nw {w w' : World} {v : Value} {it : Its} {K : Nat} (h : MkdL w v it K) (k : Nw w w') : MkdL w' v it K := by
 rcases h with h | ⟨g, c, h1, h2⟩
 ·exact Or.inl h
 ·exact Or.inr ⟨g, c, h1, h2.nw k⟩
theorem markL_own (w : World) (B : Nat) (v : Value) (it : Its) (h : OwnLn w B v it) (hn : it.length ≤ 1048576) (hm : manyL (it.map (·.2)) ≤ 1048576) :
  Calls Tryz.prog 18 #[v, .int .i64 1] w fun e w' => e = .returned (.int .i64 (kAt (nsOf it) 1 it.length : Int)) ∧ Mid B w.heap.size w w' ∧ MkdL w' v it 1 := by
 have hl : (vsOf it).length = it.length := by simp [vsOf]
 rcases h.marks 1 with ⟨rfl, rfl⟩ | ⟨g, c, rfl, hs, hk⟩
 ·refine (markLineS_nil w 1 (by omega)).mono ?_
  rintro e w' ⟨rfl, rfl⟩
  exact ⟨rfl, Mid.refl _ _ _, Or.inl ⟨rfl, rfl⟩⟩
 ·have := markLineS_any w B w.heap.size g c (vsOf it) (nsOf it) 1 hs (by rw [hl]; exact hn) (fun i hi => Nat.le_trans (nsOf_le it i (by rw [← hl]; exact hi)) hm) (by rw [hl, kAt_all]; omega) hk
  rw [hl] at this
  refine this.mono ?_
  rintro e w' ⟨rfl, h1, h2⟩
  exact ⟨rfl, h1, Or.inr ⟨g, c, rfl, h2⟩⟩
theorem heldL_own (w : World) (v : Value) (it : Its) (h : MkdL w v it 1) (hn : it.length ≤ 1048576) (hm : manyL (it.map (·.2)) ≤ 1048576) :
  Calls Tryz.prog 20 #[v, .int .i64 1] w fun e w' => e = .returned (.int .i64 (kAt (nsOf it) 1 it.length : Int)) ∧ w' = w := by
 have hl : (vsOf it).length = it.length := by simp [vsOf]
 rcases h with ⟨rfl, rfl⟩ | ⟨g, c, rfl, hk⟩
 ·exact heldLineS_nil w 1 (by omega)
 ·have := heldLineS_any w g c (vsOf it) (nsOf it) 1 (by rw [hl]; exact hn) (fun i hi => Nat.le_trans (nsOf_le it i (by rw [← hl]; exact hi)) hm) (by rw [hl, kAt_all]; omega) (by rw [hl]; exact hk)
  rw [hl] at this
  exact this
end Go.Proofs.YtfdjjbgcaojcnaaGreat
