/-
  Strokes: the corners of segments, by the program; each theor
-/
import Derived.Test.YtfdjjbgcaojcnaaGreatJAL
import Derived.Test.YtfdjjbgcaojcnaaGreatJAB
import Derived.Test.YtfdjjbgcaojcnaaGreatJAG
import Derived.Test.YtfdjjbgcaojcnaaGreatJAF
import Derived.Deep.DeepCutAuto
import Derived.Test.YtfdjjbgcaojcnaaGreatJAD
import Derived.Test.YtfdjjbgcaojcnaaGreatJAE
import Derived.Test.YtfdjjbgcaojcnaaGreatJAA
namespace Go.Proofs.YtfdjjbgcaojcnaaGreat
open Go.ChangeShapes Go.WideShapes Go.ChangeAt Go.RowKit
set_option linter.unusedVariables false
def cornsK (J : Sg → Sg → List Pnt) (l : List Sg) (cl : Bool) : Nat → List LD
 | 0 => []
 | k + 1 => cornsK J l cl k ++ (if k = 0 ∧ cl = false then [] else [⟨J (sgAt l ((k + l.length - 1) % l.length)) (sgAt l k), true⟩])
theorem cornsK_len (J : Sg → Sg → List Pnt) (l : List Sg) (cl : Bool) (k : Nat) : (cornsK J l cl k).length ≤ k := by
 induction k with
 | zero => simp [cornsK]
 | succ k ih =>
  unfold cornsK
  rw [List.length_append]
  split <;> simp <;> omega
set_option maxRecDepth 100000 in
set_option maxHeartbeats 8000000 in
theorem icornersR (w : World) (a : Option Addr) (c : Nat) (l : List Sg) (cl : Bool) (h : Int) (J : Sg → Sg → List Pnt) (hl : l.length ≤ 900000) (hr : Sgs w a l)
  (hJ : ∀ i j, i < l.length → j < l.length → RingSays 91 #[cnV (sgAt l i).f.1 (sgAt l i).f.2 (sgAt l i).t.1 (sgAt l i).t.2 (sgAt l i).s.1 (sgAt l i).s.2 (sgAt l j).f.1 (sgAt l j).f.2 (sgAt l j).t.1 (sgAt l j).t.2 (sgAt l j).s.1 (sgAt l j).s.2 h] (J (sgAt l i) (sgAt l j))) :
  Calls Tryz.prog 73 #[.slice a l.length c, .bool cl, .int .i64 h, .func (.func 91) #[] #[]] w fun e w' => ∃ v, e = .returned v ∧ LsOk w' w.heap.size v (cornsK J l cl l.length) ∧ Nw w w' := by
 have HS : Hid (∀ k, ¬ (k = 0 ∧ cl = false) → cornsK J l cl (k + 1) = cornsK J l cl k ++ [⟨J (sgAt l ((k + l.length - 1) % l.length)) (sgAt l k), true⟩]) := fun k hk => by
  rw [cornsK, if_neg hk]
 have HZ : Hid (cl = false → cornsK J l cl (0 + 1) = cornsK J l cl 0) := fun hk => by
  show cornsK J l cl 0 ++ (if 0 = 0 ∧ cl = false then [] else _) = _
  rw [if_pos ⟨rfl, hk⟩, List.append_nil]
 have H0 : Hid (cornsK J l cl 0 = []) := rfl
 have HL : Hid (∀ k, (cornsK J l cl k).length ≤ k) := cornsK_len J l cl
 have HR : Hid (Sgs w a l) := hr
 have HJJ : Hid _ := hJ
 clear hr hJ
 obtain ⟨G, hG⟩ : ∃ G, cornsK J l cl = G := ⟨_, rfl⟩
 rw [hG] at HS HZ H0 HL ⊢
 clear hG
 obtain ⟨n, hn⟩ : ∃ n, l.length = n := ⟨_, rfl⟩
 have HN : Hid (l.length = n) := hn
 rw [hn] at HS HJJ hl ⊢
 clear hn
 go_enter Tryz.func73, Tryz.ntmps73
 go_wp2
 go_loopw [15, 9] (fun i v wr => ∃ (k : Nat) (it : Its), k ≤ n ∧ i = .int .i64 (k : Int) ∧ OwnLn wr w.heap.size v it ∧ it.map (·.2) = G k ∧ Nw w wr) (fun i _ _ => n - (intOf i).toNat)
 case atStart => exact ⟨0, [], Nat.zero_le _, rfl, OwnLn.nil _ _, by rw [H0.out]; rfl, Below.refl _ _⟩
 case round =>
  obtain ⟨k, it, hk, rfl, ho, he, hw⟩ := hrel
  have HE : Hid (it.map (·.2) = G k) := he
  have HO : Hid (OwnLn wr w.heap.size _ it) := ho
  have HW : Hid (Nw w wr) := hw
  have hil : it.length ≤ k := by have := HL.out k; rw [← he, List.length_map] at this; exact this
  obtain ⟨va, vn, vc, hv⟩ := OwnQ.slice ho.own
  subst hv
  clear ho hw he
  by_cases hlt : k < n
  ·have d1 : decide ((k : Int) < (n : Int)) = true := by simp; omega
   obtain ⟨m, hm⟩ : ∃ m, (k + n - 1) % n = m := ⟨_, rfl⟩
   have hmn : m < n := by rw [← hm]; exact Nat.mod_lt _ (by omega)
   have hrm : ((k : Int) + (n : Int) - 1).tmod (n : Int) = (m : Int) := by
    rw [← hm, Int.tmod_eq_emod_of_nonneg (by omega), show (k : Int) + (n : Int) - 1 = ((k + n - 1 : Nat) : Int) by omega]
    first | exact (Int.natCast_emod (k + n - 1) n).symm | rfl
   rcases (Sgs.nw HR.out HW.out) with h0 | ⟨b, rfl, hc⟩
   ·have := HN.out; rw [h0] at this; simp at this; omega
   have hck := hc k (by rw [HN.out]; exact hlt)
   have hcm := hc m (by rw [HN.out]; exact hmn)
   have HJ : Hid _ := HJJ.out m k hmn hlt
   have HSk := HS.out k
   rw [hm] at HSk
   have hmz : k = 0 → (-1 : Int) % (n : Int) = (m : Int) := fun hz => by
    subst hz
    rw [Int.tmod_eq_emod_of_nonneg (by omega)] at hrm
    rw [← hrm]
    simp
   clear hc hm HS HJJ
   generalize sgAt l k = X at *
   generalize sgAt l m = Y at *
   obtain ⟨⟨bfx, bfy⟩, ⟨btx, bty⟩, ⟨bsx, bsy⟩⟩ := X
   obtain ⟨⟨afx, afy⟩, ⟨atx, aty⟩, ⟨asx, asy⟩⟩ := Y
   have q0 := hck 0 _ rfl
   have q1 := hck 1 _ rfl
   have q2 := hck 2 _ rfl
   have q3 := hck 3 _ rfl
   have q4 := hck 4 _ rfl
   have q5 := hck 5 _ rfl
   have p0 := hcm 0 _ rfl
   have p1 := hcm 1 _ rfl
   have p2 := hcm 2 _ rfl
   have p3 := hcm 3 _ rfl
   have p4 := hcm 4 _ rfl
   have p5 := hcm 5 _ rfl
   simp only [Nat.add_zero] at q0 q1 q2 q3 q4 q5 p0 p1 p2 p3 p4 p5
   simp only at HJ
   have hb : b < wr.heap.size := World.block_lt_of_cell? wr ⟨b, _, none⟩ q0
   clear hck hcm
   by_cases hz : k = 0 ∧ cl = false
   ·obtain ⟨rfl, rfl⟩ := hz
    go_wp2
    go_roundw
    case rel => exact ⟨0 + 1, it, hlt, by go_num, OwnLn.nw HO.out (Kp.nw ((Kp.refl wr).alloc _ _)), by rw [HZ.out rfl]; exact HE.out, Nw.trans HW.out (Kp.nw ((Kp.refl wr).alloc _ _))⟩
    case measure => simp [intOf]; omega
   ·have HX : Hid _ := HSk hz
    clear HSk
    by_cases hk0 : k = 0
    ·subst hk0
     have hcl : cl = true := by cases cl with | true => rfl | false => exact absurd ⟨rfl, rfl⟩ hz
     subst hcl
     have hmy := hmz rfl
     clear hz hmz hrm
     go_upto_region 6 with fail
     go_wp2_with fail
     refine Calls.mono (HJ.out _) ?_
     rintro e w1 ⟨v1, rfl, o1, n1⟩
     have N1 : Hid (Nw wr w1) := Nw.trans (Kp.nw (((Kp.refl wr).alloc _ _).alloc _ _)) n1
     have O1 : Hid (OwnP w1 wr.heap.size v1 _) := OwnQ.base o1 (by simp; omega)
     obtain ⟨ua, uc, hu, _⟩ := o1.pts
     subst hu
     clear o1 n1 q0 q1 q2 q3 q4 q5 p0 p1 p2 p3 p4 p5
     go_wp2_with (at_builtin; (refine wpl_ln wr w1 rfl (.tmp 37) (.tmp 44) rfl w.heap.size (.slice va vn vc) it _ ⟨J ⟨(afx, afy), (atx, aty), (asx, asy)⟩ ⟨(bfx, bfy), (btx, bty), (bsx, bsy)⟩, true⟩ rfl HO.out N1.out ?hB O1.out ?hx ?hl ?_))
     case hB => exact Below.size HW.out
     case hx => rfl
     case hl => omega
     intro g' c' w9 h2 h3
     have H2 : Hid _ := h2
     have N9 : Hid (Nw w w9) := Below.trans HW.out h3
     clear h2 h3
     go_wp2
     go_roundw
     case rel => exact ⟨0 + 1, _, hlt, by go_num, H2.out, by rw [HX.out, List.map_append, HE.out]; rfl, N9.out⟩
     case measure => simp [intOf]; omega
    ·have d2 : ((k : Int) == 0) = false := by simp; omega
     clear hz
     go_wp2_with fail
     refine Calls.mono (HJ.out _) ?_
     rintro e w1 ⟨v1, rfl, o1, n1⟩
     have N1 : Hid (Nw wr w1) := Nw.trans (Kp.nw (((Kp.refl wr).alloc _ _).alloc _ _)) n1
     have O1 : Hid (OwnP w1 wr.heap.size v1 _) := OwnQ.base o1 (by simp; omega)
     obtain ⟨ua, uc, hu, _⟩ := o1.pts
     subst hu
     clear o1 n1 q0 q1 q2 q3 q4 q5 p0 p1 p2 p3 p4 p5
     go_wp2_with (at_builtin; (refine wpl_ln wr w1 rfl (.tmp 37) (.tmp 44) rfl w.heap.size (.slice va vn vc) it _ ⟨J ⟨(afx, afy), (atx, aty), (asx, asy)⟩ ⟨(bfx, bfy), (btx, bty), (bsx, bsy)⟩, true⟩ rfl HO.out N1.out ?hB O1.out ?hx ?hl ?_))
     case hB => exact Below.size HW.out
     case hx => rfl
     case hl => omega
     intro g' c' w9 h2 h3
     have H2 : Hid _ := h2
     have N9 : Hid (Nw w w9) := Below.trans HW.out h3
     clear h2 h3
     go_wp2
     go_roundw
     case rel => exact ⟨k + 1, _, hlt, by go_num, H2.out, by rw [HX.out, List.map_append, HE.out]; rfl, N9.out⟩
     case measure => simp [intOf]; omega
  ·obtain rfl : k = n := by omega
   have d1 : decide ((k : Int) < (k : Int)) = false := by simp
   go_wp2
   go_ret
   exact ⟨_, rfl, LsOk.of HO.out HE.out, HW.out⟩
set_option maxRecDepth 100000 in
set_option maxHeartbeats 8000000 in
theorem icornersB (w : World) (a : Option Addr) (c : Nat) (l : List Sg) (cl : Bool) (h : Int) (J : Sg → Sg → List Pnt) (hl : l.length ≤ 900000) (hr : Sgs w a l)
  (hJ : ∀ i j, i < l.length → j < l.length → RingSays 92 #[cnV (sgAt l i).f.1 (sgAt l i).f.2 (sgAt l i).t.1 (sgAt l i).t.2 (sgAt l i).s.1 (sgAt l i).s.2 (sgAt l j).f.1 (sgAt l j).f.2 (sgAt l j).t.1 (sgAt l j).t.2 (sgAt l j).s.1 (sgAt l j).s.2 h] (J (sgAt l i) (sgAt l j))) :
  Calls Tryz.prog 73 #[.slice a l.length c, .bool cl, .int .i64 h, .func (.func 92) #[] #[]] w fun e w' => ∃ v, e = .returned v ∧ LsOk w' w.heap.size v (cornsK J l cl l.length) ∧ Nw w w' := by
 have HS : Hid (∀ k, ¬ (k = 0 ∧ cl = false) → cornsK J l cl (k + 1) = cornsK J l cl k ++ [⟨J (sgAt l ((k + l.length - 1) % l.length)) (sgAt l k), true⟩]) := fun k hk => by
  rw [cornsK, if_neg hk]
 have HZ : Hid (cl = false → cornsK J l cl (0 + 1) = cornsK J l cl 0) := fun hk => by
  show cornsK J l cl 0 ++ (if 0 = 0 ∧ cl = false then [] else _) = _
  rw [if_pos ⟨rfl, hk⟩, List.append_nil]
 have H0 : Hid (cornsK J l cl 0 = []) := rfl
 have HL : Hid (∀ k, (cornsK J l cl k).length ≤ k) := cornsK_len J l cl
 have HR : Hid (Sgs w a l) := hr
 have HJJ : Hid _ := hJ
 clear hr hJ
 obtain ⟨G, hG⟩ : ∃ G, cornsK J l cl = G := ⟨_, rfl⟩
 rw [hG] at HS HZ H0 HL ⊢
 clear hG
 obtain ⟨n, hn⟩ : ∃ n, l.length = n := ⟨_, rfl⟩
 have HN : Hid (l.length = n) := hn
 rw [hn] at HS HJJ hl ⊢
 clear hn
 go_enter Tryz.func73, Tryz.ntmps73
 go_wp2
 go_loopw [15, 9] (fun i v wr => ∃ (k : Nat) (it : Its), k ≤ n ∧ i = .int .i64 (k : Int) ∧ OwnLn wr w.heap.size v it ∧ it.map (·.2) = G k ∧ Nw w wr) (fun i _ _ => n - (intOf i).toNat)
 case atStart => exact ⟨0, [], Nat.zero_le _, rfl, OwnLn.nil _ _, by rw [H0.out]; rfl, Below.refl _ _⟩
 case round =>
  obtain ⟨k, it, hk, rfl, ho, he, hw⟩ := hrel
  have HE : Hid (it.map (·.2) = G k) := he
  have HO : Hid (OwnLn wr w.heap.size _ it) := ho
  have HW : Hid (Nw w wr) := hw
  have hil : it.length ≤ k := by have := HL.out k; rw [← he, List.length_map] at this; exact this
  obtain ⟨va, vn, vc, hv⟩ := OwnQ.slice ho.own
  subst hv
  clear ho hw he
  by_cases hlt : k < n
  ·have d1 : decide ((k : Int) < (n : Int)) = true := by simp; omega
   obtain ⟨m, hm⟩ : ∃ m, (k + n - 1) % n = m := ⟨_, rfl⟩
   have hmn : m < n := by rw [← hm]; exact Nat.mod_lt _ (by omega)
   have hrm : ((k : Int) + (n : Int) - 1).tmod (n : Int) = (m : Int) := by
    rw [← hm, Int.tmod_eq_emod_of_nonneg (by omega), show (k : Int) + (n : Int) - 1 = ((k + n - 1 : Nat) : Int) by omega]
    first | exact (Int.natCast_emod (k + n - 1) n).symm | rfl
   rcases (Sgs.nw HR.out HW.out) with h0 | ⟨b, rfl, hc⟩
   ·have := HN.out; rw [h0] at this; simp at this; omega
   have hck := hc k (by rw [HN.out]; exact hlt)
   have hcm := hc m (by rw [HN.out]; exact hmn)
   have HJ : Hid _ := HJJ.out m k hmn hlt
   have HSk := HS.out k
   rw [hm] at HSk
   have hmz : k = 0 → (-1 : Int) % (n : Int) = (m : Int) := fun hz => by
    subst hz
    rw [Int.tmod_eq_emod_of_nonneg (by omega)] at hrm
    rw [← hrm]
    simp
   clear hc hm HS HJJ
   generalize sgAt l k = X at *
   generalize sgAt l m = Y at *
   obtain ⟨⟨bfx, bfy⟩, ⟨btx, bty⟩, ⟨bsx, bsy⟩⟩ := X
   obtain ⟨⟨afx, afy⟩, ⟨atx, aty⟩, ⟨asx, asy⟩⟩ := Y
   have q0 := hck 0 _ rfl
   have q1 := hck 1 _ rfl
   have q2 := hck 2 _ rfl
   have q3 := hck 3 _ rfl
   have q4 := hck 4 _ rfl
   have q5 := hck 5 _ rfl
   have p0 := hcm 0 _ rfl
   have p1 := hcm 1 _ rfl
   have p2 := hcm 2 _ rfl
   have p3 := hcm 3 _ rfl
   have p4 := hcm 4 _ rfl
   have p5 := hcm 5 _ rfl
   simp only [Nat.add_zero] at q0 q1 q2 q3 q4 q5 p0 p1 p2 p3 p4 p5
   simp only at HJ
   have hb : b < wr.heap.size := World.block_lt_of_cell? wr ⟨b, _, none⟩ q0
   clear hck hcm
   by_cases hz : k = 0 ∧ cl = false
   ·obtain ⟨rfl, rfl⟩ := hz
    go_wp2
    go_roundw
    case rel => exact ⟨0 + 1, it, hlt, by go_num, OwnLn.nw HO.out (Kp.nw ((Kp.refl wr).alloc _ _)), by rw [HZ.out rfl]; exact HE.out, Nw.trans HW.out (Kp.nw ((Kp.refl wr).alloc _ _))⟩
    case measure => simp [intOf]; omega
   ·have HX : Hid _ := HSk hz
    clear HSk
    by_cases hk0 : k = 0
    ·subst hk0
     have hcl : cl = true := by cases cl with | true => rfl | false => exact absurd ⟨rfl, rfl⟩ hz
     subst hcl
     have hmy := hmz rfl
     clear hz hmz hrm
     go_upto_region 6 with fail
     go_wp2_with fail
     refine Calls.mono (HJ.out _) ?_
     rintro e w1 ⟨v1, rfl, o1, n1⟩
     have N1 : Hid (Nw wr w1) := Nw.trans (Kp.nw (((Kp.refl wr).alloc _ _).alloc _ _)) n1
     have O1 : Hid (OwnP w1 wr.heap.size v1 _) := OwnQ.base o1 (by simp; omega)
     obtain ⟨ua, uc, hu, _⟩ := o1.pts
     subst hu
     clear o1 n1 q0 q1 q2 q3 q4 q5 p0 p1 p2 p3 p4 p5
     go_wp2_with (at_builtin; (refine wpl_ln wr w1 rfl (.tmp 37) (.tmp 44) rfl w.heap.size (.slice va vn vc) it _ ⟨J ⟨(afx, afy), (atx, aty), (asx, asy)⟩ ⟨(bfx, bfy), (btx, bty), (bsx, bsy)⟩, true⟩ rfl HO.out N1.out ?hB O1.out ?hx ?hl ?_))
     case hB => exact Below.size HW.out
     case hx => rfl
     case hl => omega
     intro g' c' w9 h2 h3
     have H2 : Hid _ := h2
     have N9 : Hid (Nw w w9) := Below.trans HW.out h3
     clear h2 h3
     go_wp2
     go_roundw
     case rel => exact ⟨0 + 1, _, hlt, by go_num, H2.out, by rw [HX.out, List.map_append, HE.out]; rfl, N9.out⟩
     case measure => simp [intOf]; omega
    ·have d2 : ((k : Int) == 0) = false := by simp; omega
     clear hz
     go_wp2_with fail
     refine Calls.mono (HJ.out _) ?_
     rintro e w1 ⟨v1, rfl, o1, n1⟩
     have N1 : Hid (Nw wr w1) := Nw.trans (Kp.nw (((Kp.refl wr).alloc _ _).alloc _ _)) n1
     have O1 : Hid (OwnP w1 wr.heap.size v1 _) := OwnQ.base o1 (by simp; omega)
     obtain ⟨ua, uc, hu, _⟩ := o1.pts
     subst hu
     clear o1 n1 q0 q1 q2 q3 q4 q5 p0 p1 p2 p3 p4 p5
     go_wp2_with (at_builtin; (refine wpl_ln wr w1 rfl (.tmp 37) (.tmp 44) rfl w.heap.size (.slice va vn vc) it _ ⟨J ⟨(afx, afy), (atx, aty), (asx, asy)⟩ ⟨(bfx, bfy), (btx, bty), (bsx, bsy)⟩, true⟩ rfl HO.out N1.out ?hB O1.out ?hx ?hl ?_))
     case hB => exact Below.size HW.out
     case hx => rfl
     case hl => omega
     intro g' c' w9 h2 h3
     have H2 : Hid _ := h2
     have N9 : Hid (Nw w w9) := Below.trans HW.out h3
     clear h2 h3
     go_wp2
     go_roundw
     case rel => exact ⟨k + 1, _, hlt, by go_num, H2.out, by rw [HX.out, List.map_append, HE.out]; rfl, N9.out⟩
     case measure => simp [intOf]; omega
  ·obtain rfl : k = n := by omega
   have d1 : decide ((k : Int) < (k : Int)) = false := by simp
   go_wp2
   go_ret
   exact ⟨_, rfl, LsOk.of HO.out HE.out, HW.out⟩
set_option linter.unusedSimpArgs false
theorem iplus (w : World) (x1 y1 x2 y2 : Int) (h1 : sml x1) (h2 : sml y1) (h3 : sml x2) (h4 : sml y2) :
    Calls Tryz.prog 83 #[.agg #[.int .i64 x1, .int .i64 y1], .agg #[.int .i64 x2, .int .i64 y2]] w fun e w' => e = .returned (.agg #[.int .i64 (x1 + x2), .int .i64 (y1 + y2)]) ∧ Kp w w' := by
  unfold sml at *
  go_enter Tryz.func83, Tryz.ntmps83
  go_wp2
  refine bodyPost_ret (v := .agg #[.int .i64 (x1 + x2), .int .i64 (y1 + y2)]) (by simp [results, Tryz.results83, go_sem]) rfl ⟨rfl, ?_⟩
  exact (((Kp.refl w).alloc _ _).alloc _ _).alloc _ _
theorem ddk (a b : Int) (w : World) (hb : 0 < b) (hb' : b ≤ 4611686018427387904) (h1 : -4611686018427387904 ≤ a) (h2 : a ≤ 4611686018427387904) :
    Calls Tryz.prog 84 #[.int .i64 a, .int .i64 b] w fun e w' => e = .returned (.int .i64 (a / b)) ∧ Kp w w' := by
  refine Calls.mono (divDown_any a b w hb hb' h1 h2) ?_
  rintro e w' ⟨rfl, rfl⟩
  exact ⟨rfl, Kp.refl _⟩
structure PLR where
 ba : Nat
 bd : Nat
 br : Nat
 ax : Int
 ay : Int
 dx : Int
 dy : Int
 k : Int
 n : Int
 W : World
 a0 : Act
structure PLROk (X : PLR) : Prop where
 a0 : X.W.cell? ⟨X.ba, 0, none⟩ = some (.int .i64 X.ax)
 a1 : X.W.cell? ⟨X.ba, 1, none⟩ = some (.int .i64 X.ay)
 d0 : X.W.cell? ⟨X.bd, 0, none⟩ = some (.int .i64 X.dx)
 d1 : X.W.cell? ⟨X.bd, 1, none⟩ = some (.int .i64 X.dy)
 hn : 0 < X.n
 hn2 : X.n ≤ 4611686018427387904
 mx : -4611686018427387904 ≤ X.dx * X.k ∧ X.dx * X.k ≤ 4611686018427387904
 my : -4611686018427387904 ≤ X.dy * X.k ∧ X.dy * X.k ≤ 4611686018427387904
 w1 : IntKind.i64.wrap (X.dx * X.k) = X.dx * X.k
 w2 : IntKind.i64.wrap (X.dy * X.k) = X.dy * X.k
 s1 : sml X.ax
 s2 : sml X.ay
 s3 : sml (X.dx * X.k / X.n)
 s4 : sml (X.dy * X.k / X.n)
 z0 : ∃ u, X.W.cell? ⟨X.br, 0, none⟩ = some u
 z1 : ∃ u, X.W.cell? ⟨X.br, 1, none⟩ = some u
 zf : ∀ o, X.W.frozen? ⟨X.br, o, none⟩ = false
 e2 : X.a0.eval (.tmp 2) = .int .i64 X.k
 e3 : X.a0.eval (.tmp 3) = .int .i64 X.n
 e4 : X.a0.eval (.tmp 4) = .pointer (some ⟨X.ba, 0, none⟩)
 e8 : X.a0.eval (.tmp 8) = .pointer (some ⟨X.br, 0, none⟩)
 e9 : X.a0.eval (.tmp 9) = .pointer (some ⟨X.bd, 0, none⟩)
 sz : X.a0.tmps.size = 28
def PLR.val0 (X : PLR) : Nat → Value
 | 2 => .int .i64 X.k
 | 3 => .int .i64 X.n
 | 4 => .pointer (some ⟨X.ba, 0, none⟩)
 | 8 => .pointer (some ⟨X.br, 0, none⟩)
 | 9 => .pointer (some ⟨X.bd, 0, none⟩)
 | 13 => .agg #[.int .i64 X.ax, .int .i64 X.ay]
 | 14 => .pointer (some ⟨X.bd, 0, none⟩)
 | 15 => .int .i64 X.dx
 | 16 => .int .i64 X.k
 | 17 => .int .i64 (X.dx * X.k)
 | 18 => .int .i64 X.n
 | 19 => .int .i64 (X.dx * X.k / X.n)
 | 20 => .pointer (some ⟨X.bd, 1, none⟩)
 | 21 => .int .i64 X.dy
 | 22 => .int .i64 X.k
 | 23 => .int .i64 (X.dy * X.k)
 | 24 => .int .i64 X.n
 | 25 => .int .i64 (X.dy * X.k / X.n)
 | 26 => .agg #[.int .i64 (X.dx * X.k / X.n), .int .i64 (X.dy * X.k / X.n)]
 | 27 => .agg #[.int .i64 (X.ax + X.dx * X.k / X.n), .int .i64 (X.ay + X.dy * X.k / X.n)]
 | _ => undef
def PLR.av : Nat → Option Nat
 | _ => none
def PLR.acts : List Nat := [15]
def PLR.Wd (X : PLR) : Nat → (Nat → Value) → World → Prop
  | 0, _, w => Kp X.W w
  | _, _, w => ∃ w1, Kp X.W w1 ∧ w = ((w1.setCell ⟨X.br, 0, none⟩ (.int .i64 (X.ax + X.dx * X.k / X.n))).setCell ⟨X.br, 1, none⟩ (.int .i64 (X.ay + X.dy * X.k / X.n)))
theorem PLR.chain : chainG (opsOf 2 Tryz.f64) PLR.acts = true := by kernel_rfl
theorem PLR.nodup : PLR.acts.Nodup := by decide
def PLR.L : List (Option Nat × Op × Option (Nat × Bool)) := [
 (some 13, .load 34 (.tmp 4), none),
 (some 14, .fieldAddr 34 (.tmp 9) 0, none),
 (some 15, .load 3 (.tmp 14), none),
 (some 16, .move (.tmp 2), none),
 (some 17, .binOp .mul 3 (.tmp 15) (.tmp 16) 3, none),
 (some 18, .move (.tmp 3), none),
 (some 19, .call { callee := .value (.func 84), args := #[(.tmp 17), (.tmp 18)], argTypes := #[3, 3] }, none),
 (some 20, .fieldAddr 34 (.tmp 9) 1, none),
 (some 21, .load 3 (.tmp 20), none),
 (some 22, .move (.tmp 2), none),
 (some 23, .binOp .mul 3 (.tmp 21) (.tmp 22) 3, none),
 (some 24, .move (.tmp 3), none),
 (some 25, .call { callee := .value (.func 84), args := #[(.tmp 23), (.tmp 24)], argTypes := #[3, 3] }, none),
 (some 26, .build 34 #[(0, (.tmp 19)), (1, (.tmp 25))], none),
 (some 27, .call { callee := .value (.func 83), args := #[(.tmp 13), (.tmp 26)], argTypes := #[34, 34] }, none),
 (none, .store 34 (.tmp 8) (.tmp 27), none)]
theorem PLR.isL : (opsOf 2 Tryz.f64).toList.map tri = PLR.L := by kernel_rfl
theorem PLR.ini {X : PLR} (ok : PLROk X) : ∀ n ∈ [2, 3, 4, 8, 9], X.a0.eval (.tmp n) = X.val0 n := by
 simp only [List.forall_mem_cons]
 exact ⟨ok.e2, ok.e3, ok.e4, ok.e8, ok.e9, List.forall_mem_nil _⟩
abbrev PLR.St (X : PLR) (Q : PQ) (i : Nat) : Prop := StepG (opsOf 2 Tryz.f64) PLR.acts PLR.av X.val0 X.Wd X.a0 Q i
theorem PLR.plain (X : PLR) (ok : PLROk X) {Q : PQ} : ∀ i ∈ [1, 3, 4, 5, 7, 9, 10, 11, 13], PLR.St X Q i := by
 simp only [List.forall_mem_cons]
 refine ⟨?_, ?_, ?_, ?_, ?_, ?_, ?_, ?_, ?_, List.forall_mem_nil _⟩
 all_goals
  refine st_plain PLR.isL (PLR.ini ok) ok.sz rfl (by kernel_rfl) ?_
  intro γ w n o hW hop
  unfold execOp
  rw [hop]
  simp [envR, valG, PLR.av, PLR.val0, ok.w1, ok.w2, go_sem]
theorem PLR.early (X : PLR) (ok : PLROk X) {Q : PQ} : ∀ i ∈ [0, 2, 8], PLR.St X Q i := by
 simp only [List.forall_mem_cons]
 refine ⟨?_, ?_, ?_, List.forall_mem_nil _⟩
 all_goals
  refine st_plainM (m := 0) PLR.isL (PLR.ini ok) ok.sz rfl (by kernel_rfl) ?_
  intro γ w n o hn hW hop
  obtain rfl : n = 0 := by omega
  have hk : Kp X.W w := hW
  have hc_a0 := rq_at hk ok.a0
  have hc_a1 := rq_at hk ok.a1
  have hc_d0 := rq_at hk ok.d0
  have hc_d1 := rq_at hk ok.d1
  unfold execOp
  rw [hop]
  simp [envR, valG, PLR.av, PLR.val0, hc_a0, hc_a1, hc_d0, hc_d1, go_sem]
theorem PLR.s15 (X : PLR) (ok : PLROk X) {Q : PQ} : PLR.St X Q 15 := by
 intro γ listed a w o hF hC hW h1 ho h2
 obtain ⟨hd, hop, hg⟩ := fieldsL PLR.isL (i := 15) rfl ho
 have e8 : a.eval (.tmp 8) = .pointer (some ⟨X.br, 0, none⟩) := known hF ho h2 (PLR.ini ok) ok.sz (by kernel_rfl)
 have e27 : a.eval (.tmp 27) = .agg #[.int .i64 (X.ax + X.dx * X.k / X.n), .int .i64 (X.ay + X.dy * X.k / X.n)] := known hF ho h2 (PLR.ini ok) ok.sz (by kernel_rfl)
 have hu := unl (hF.lt ho) h1
 refine st_actG (k := 0) PLR.chain PLR.nodup rfl hF hC hW h1 ho h2 (Or.inl hd) (injG (by kernel_rfl) hu) hg ?_
 intro hW0 K hK
 obtain ⟨u0, z0⟩ := ok.z0
 replace z0 := rq_at hW0 z0
 obtain ⟨u1, z1⟩ := ok.z1
 replace z1 := rq_at hW0 z1
 have zf : ∀ o, w.frozen? ⟨X.br, o, none⟩ = false := fun o => (hW0.cells.2 _ _).trans (ok.zf o)
 have hr : (execOp a.eval o).run Tryz.prog w = .ok .skip ((w.setCell ⟨X.br, 0, none⟩ (.int .i64 (X.ax + X.dx * X.k / X.n))).setCell ⟨X.br, 1, none⟩ (.int .i64 (X.ay + X.dy * X.k / X.n))) := by
  generalize a.eval = ρ at e8 e27 ⊢
  unfold execOp
  rw [hop]
  simp [e8, e27, z0, z1, zf, go_sem]
 unfold Oper.wp
 rw [hr]
 exact hK _ _ ⟨w, hW0, rfl⟩
theorem PLR.size : (opsOf 2 Tryz.f64).size = 16 := by kernel_rfl
theorem PLR.rest (X : PLR) (ok : PLROk X) {Q : PQ} : ∀ i ∈ [6, 12, 14, 15], PLR.St X Q i := by
 simp only [List.forall_mem_cons]
 exact ⟨st_callZ PLR.isL (PLR.ini ok) ok.sz rfl (by kernel_rfl) (fun _ _ => by simp [go_sem]) (fun γ w hW => ddk _ _ w ok.hn ok.hn2 ok.mx.1 ok.mx.2) (fun _ _ _ hW hk => Kp.trans hW hk),
  st_callZ PLR.isL (PLR.ini ok) ok.sz rfl (by kernel_rfl) (fun _ _ => by simp [go_sem]) (fun γ w hW => ddk _ _ w ok.hn ok.hn2 ok.my.1 ok.my.2) (fun _ _ _ hW hk => Kp.trans hW hk),
  st_callZ PLR.isL (PLR.ini ok) ok.sz rfl (by kernel_rfl) (fun _ _ => by simp [go_sem]) (fun γ w hW => iplus w _ _ _ _ ok.s1 ok.s2 ok.s3 ok.s4) (fun _ _ _ hW hk => Kp.trans hW hk),
  PLR.s15 X ok, List.forall_mem_nil _⟩
theorem PLR.steps (X : PLR) (ok : PLROk X) {Q : PQ} (i : Nat) (hi : i < (opsOf 2 Tryz.f64).size) : PLR.St X Q i := by
 rw [PLR.size] at hi
 rcases (by decide : ∀ i, i < 16 → i ∈ [1, 3, 4, 5, 7, 9, 10, 11, 13] ∨ i ∈ [0, 2, 8] ∨ i ∈ [6, 12, 14, 15]) i hi with h | h | h
 · exact PLR.plain X ok i h
 · exact PLR.early X ok i h
 · exact PLR.rest X ok i h
theorem PLR.run (X : PLR) (ok : PLROk X) {Q : PQ} (w : World) (h0 : X.Wd 0 (fun _ => undef) w.drew) (hend : ∀ (γ : Nat → Value) w', X.Wd 1 γ w' → Q .normal (((((((((((((((X.a0.put (some 13) (.agg #[.int .i64 X.ax, .int .i64 X.ay])).put (some 14) (.pointer (some ⟨X.bd, 0, none⟩))).put (some 15) (.int .i64 X.dx)).put (some 16) (.int .i64 X.k)).put (some 17) (.int .i64 (X.dx * X.k))).put (some 18) (.int .i64 X.n)).put (some 19) (.int .i64 (X.dx * X.k / X.n))).put (some 20) (.pointer (some ⟨X.bd, 1, none⟩))).put (some 21) (.int .i64 X.dy)).put (some 22) (.int .i64 X.k)).put (some 23) (.int .i64 (X.dy * X.k))).put (some 24) (.int .i64 X.n)).put (some 25) (.int .i64 (X.dy * X.k / X.n))).put (some 26) (.agg #[.int .i64 (X.dx * X.k / X.n), .int .i64 (X.dy * X.k / X.n)])).put (some 27) (.agg #[.int .i64 (X.ax + X.dx * X.k / X.n), .int .i64 (X.ay + X.dy * X.k / X.n)])) w') : (Code.region 2 (opsOf 2 Tryz.f64) true).wp Tryz.prog Q X.a0 w := by
 refine reg_act (acts := PLR.acts) (av := PLR.av) (val0 := X.val0) (Wd := X.Wd) (by kernel_rfl) (by kernel_rfl) (by rw [PLR.size]; decide) (fun i hi => PLR.steps X ok i hi) _ h0 ?_
 intro γ w' h
 exact end_at (hend γ w' h) (by kernel_rfl)
def placeV (a b : Pnt) (k n : Int) : Pnt := (a.1 + (b.1 - a.1) * k / n, a.2 + (b.2 - a.2) * k / n)
theorem mul_in {d k : Int} (h1 : -134217728 ≤ d) (h2 : d ≤ 134217728) (h3 : 0 ≤ k) (h4 : k ≤ 268435456) : -36028797018963968 ≤ d * k ∧ d * k ≤ 36028797018963968 := by
  rcases Int.le_total 0 d with h | h
  · have := Int.mul_le_mul h2 h4 h3 (by decide)
    have := Int.mul_nonneg h h3
    omega
  · have := Int.mul_le_mul (show -d ≤ 134217728 by omega) h4 h3 (by decide)
    have := Int.mul_nonneg (show 0 ≤ -d by omega) h3
    rw [Int.neg_mul] at *
    omega
theorem quo_in {x k n : Int} (h0 : 0 ≤ k) (hk : k ≤ n) (hn : 0 < n) (h1 : -134217728 ≤ x) (h2 : x ≤ 134217728) : -134217728 ≤ x * k / n ∧ x * k / n ≤ 134217728 := by
  constructor
  · refine Int.le_ediv_of_mul_le hn ?_
    have e1 : -134217728 * n ≤ -134217728 * k := by omega
    have e2 : -134217728 * k ≤ x * k := Int.mul_le_mul_of_nonneg_right h1 h0
    omega
  · refine Int.ediv_le_of_le_mul hn ?_
    have e1 : 134217728 * k ≤ 134217728 * n := by omega
    have e2 : x * k ≤ 134217728 * k := Int.mul_le_mul_of_nonneg_right h2 h0
    omega
set_option maxRecDepth 100000 in
set_option maxHeartbeats 4000000 in
theorem iplace (w : World) (ax ay bx by' k n : Int) (h1 : nr ax) (h2 : nr ay) (h3 : nr bx) (h4 : nr by') (hk : 0 ≤ k) (hkn : k ≤ n) (hn : 0 < n) (hn2 : n ≤ 268435456) :
    Calls Tryz.prog 64 #[.agg #[.int .i64 ax, .int .i64 ay], .agg #[.int .i64 bx, .int .i64 by'], .int .i64 k, .int .i64 n] w fun e w' => e = .returned (.agg #[.int .i64 (placeV (ax, ay) (bx, by') k n).1, .int .i64 (placeV (ax, ay) (bx, by') k n).2]) ∧ Nw w w' := by
  have HM : Hid (∀ w, _) := fun w => iminus w bx by' ax ay (nr_sml h3) (nr_sml h4) (nr_sml h1) (nr_sml h2)
  have HS1 : Hid (sml ax ∧ sml ay) := ⟨nr_sml h1, nr_sml h2⟩
  unfold nr at h1 h2 h3 h4
  have m1 := mul_in (d := bx - ax) (k := k) (by omega) (by omega) hk (by omega)
  have m2 := mul_in (d := by' - ay) (k := k) (by omega) (by omega) hk (by omega)
  have q1 := quo_in (x := bx - ax) hk hkn hn (by omega) (by omega)
  have q2 := quo_in (x := by' - ay) hk hkn hn (by omega) (by omega)
  have HQ : Hid (sml ((bx - ax) * k / n) ∧ sml ((by' - ay) * k / n)) := by unfold sml; exact ⟨⟨by omega, by omega⟩, ⟨by omega, by omega⟩⟩
  have w1 : IntKind.i64.wrap ((bx - ax) * k) = (bx - ax) * k := IntWalk.i64_in _ ⟨by omega, by omega⟩
  have w2 : IntKind.i64.wrap ((by' - ay) * k) = (by' - ay) * k := IntWalk.i64_in _ ⟨by omega, by omega⟩
  have HF : Hid ((-4611686018427387904 ≤ (bx - ax) * k ∧ (bx - ax) * k ≤ 4611686018427387904) ∧ (-4611686018427387904 ≤ (by' - ay) * k ∧ (by' - ay) * k ≤ 4611686018427387904) ∧ IntKind.i64.wrap ((bx - ax) * k) = (bx - ax) * k ∧ IntKind.i64.wrap ((by' - ay) * k) = (by' - ay) * k ∧ 0 < n ∧ n ≤ 4611686018427387904) := ⟨⟨by omega, by omega⟩, ⟨by omega, by omega⟩, w1, w2, hn, by omega⟩
  obtain ⟨W, hW⟩ : ∃ W, ((w.alloc (.cells #[.int .i64 ax, .int .i64 ay] 34)).alloc (.cells #[.int .i64 bx, .int .i64 by'] 34)).alloc (.cells #[.int .i64 0, .int .i64 0] 34) = W := ⟨_, rfl⟩
  have NW : Hid (Nw w W) := by show Nw w W; rw [← hW]; exact Nw.trans (Nw.trans ((Below.refl _ _).alloc (Nat.le_refl _) _) ((Below.refl _ _).alloc (Nat.le_refl _) _)) ((Below.refl _ _).alloc (Nat.le_refl _) _)
  have A1 : Hid (W.cell? ⟨w.heap.size, 0, none⟩ = some (.int .i64 ax) ∧ W.cell? ⟨w.heap.size, 1, none⟩ = some (.int .i64 ay)) := by
    show _ ∧ _
    rw [← hW]
    have k2 : Nw (w.alloc (.cells #[.int .i64 ax, .int .i64 ay] 34)) (((w.alloc (.cells #[.int .i64 ax, .int .i64 ay] 34)).alloc (.cells #[.int .i64 bx, .int .i64 by'] 34)).alloc (.cells #[.int .i64 0, .int .i64 0] 34)) := Nw.trans ((Below.refl _ _).alloc (Nat.le_refl _) _) ((Below.refl _ _).alloc (Nat.le_refl _) _)
    exact ⟨((bcell k2).1 _ _ (by simp)).trans (World.cell?_alloc_at _ _ _ _ rfl), ((bcell k2).1 _ _ (by simp)).trans (World.cell?_alloc_at _ _ _ _ rfl)⟩
  have HW : Hid (_ = W) := hW
  have R1 : Hid ((∃ z, W.cell? ⟨w.heap.size + 2, 0, none⟩ = some z) ∧ (∃ z, W.cell? ⟨w.heap.size + 2, 1, none⟩ = some z) ∧ ∀ o, W.frozen? ⟨w.heap.size + 2, o, none⟩ = false) := by
    have e : w.heap.size + 2 = ((w.alloc (.cells #[.int .i64 ax, .int .i64 ay] 34)).alloc (.cells #[.int .i64 bx, .int .i64 by'] 34)).heap.size := by simp
    show _ ∧ _
    rw [← hW, e]
    exact ⟨⟨_, World.cell?_alloc_at _ _ _ _ rfl⟩, ⟨_, World.cell?_alloc_at _ _ _ _ rfl⟩, fun o => World.frozen?_alloc_at _ _ _ _ rfl⟩
  have SZ : Hid (W.heap.size = w.heap.size + 3) := by show _ = _; rw [← hW]; simp
  have HP : Hid (placeV (ax, ay) (bx, by') k n = (ax + (bx - ax) * k / n, ay + (by' - ay) * k / n)) := rfl
  rw [HP.out]
  clear hW h1 h2 h3 h4 m1 m2 q1 q2 w1 w2 hk hkn hn hn2
  go_enter Tryz.func64, Tryz.ntmps64
  go_wp2_with fail
  rw [HW.out]
  refine Calls.mono (HM.out _) ?_
  rintro e w3 ⟨rfl, k3⟩
  generalize hdx : bx - ax = dx at *
  generalize hdy : by' - ay = dy at *
  have HDX : Hid (bx - ax = dx ∧ by' - ay = dy) := ⟨hdx, hdy⟩
  clear hdx hdy
  obtain ⟨W4, hW4⟩ : ∃ W4, w3.alloc (.cells #[.int .i64 dx, .int .i64 dy] 34) = W4 := ⟨_, rfl⟩
  have n4 : Nw w3 W4 := by rw [← hW4]; exact (Below.refl _ _).alloc (Nat.le_refl _) _
  have n5 : Nw W W4.drew := Nw.trans k3.nw (Nw.trans n4 ((Below.refl _ _).drew))
  have e5 := fun b o hb => (bcell n5).1 b o hb
  have f5 := fun b o hb => (bcell n5).2 b o hb
  have hsz := SZ.out
  have A5 : Hid (W4.drew.cell? ⟨w.heap.size, 0, none⟩ = some (.int .i64 ax) ∧ W4.drew.cell? ⟨w.heap.size, 1, none⟩ = some (.int .i64 ay)) := ⟨(e5 _ _ (by omega)).trans A1.out.1, (e5 _ _ (by omega)).trans A1.out.2⟩
  have D5 : Hid (W4.drew.cell? ⟨w3.heap.size, 0, none⟩ = some (.int .i64 dx) ∧ W4.drew.cell? ⟨w3.heap.size, 1, none⟩ = some (.int .i64 dy)) := by
    show W4.cell? _ = _ ∧ W4.cell? _ = _
    rw [← hW4]
    exact ⟨World.cell?_alloc_at _ _ _ _ rfl, World.cell?_alloc_at _ _ _ _ rfl⟩
  have R5 : Hid ((∃ z, W4.drew.cell? ⟨w.heap.size + 2, 0, none⟩ = some z) ∧ (∃ z, W4.drew.cell? ⟨w.heap.size + 2, 1, none⟩ = some z) ∧ ∀ o, W4.drew.frozen? ⟨w.heap.size + 2, o, none⟩ = false) := by
    obtain ⟨⟨z0, y0⟩, ⟨z1, y1⟩, yf⟩ := R1.out
    exact ⟨⟨z0, (e5 _ _ (by omega)).trans y0⟩, ⟨z1, (e5 _ _ (by omega)).trans y1⟩, fun o => (f5 _ _ (by omega)).trans (yf o)⟩
  have N4 : Hid (Nw w W4.drew) := Nw.trans NW.out n5
  have HW4 : Hid (_ = W4) := hW4
  clear k3 n4 n5 e5 f5 hsz hW4
  go_wp2
  rw [HW4.out]
  refine reg_change (ops' := opsOf 2 Tryz.f64) (by kernel_rfl) ?_
  refine PLR.run ⟨w.heap.size, w3.heap.size, w.heap.size + 2, ax, ay, dx, dy, k, n, W4.drew, _⟩ ⟨A5.out.1, A5.out.2, D5.out.1, D5.out.2, HF.out.2.2.2.2.1, HF.out.2.2.2.2.2, HF.out.1, HF.out.2.1, HF.out.2.2.1, HF.out.2.2.2.1, HS1.out.1, HS1.out.2, HQ.out.1, HQ.out.2, R5.out.1, R5.out.2.1, R5.out.2.2, rfl, rfl, rfl, rfl, rfl, rfl⟩ W4 (Kp.refl _) ?_
  rintro γ w9 ⟨w1, k1, rfl⟩
  obtain ⟨⟨z0, y0⟩, ⟨z1, y1⟩, _⟩ := R5.out
  have x0 := rq_at k1 y0
  have x1 := rq_at k1 y1
  have N1 : Hid (Nw w w1) := Nw.trans N4.out k1.nw
  clear k1 y0 y1
  simp only [Act.put, List.setIfInBounds_toArray, List.set_cons_zero, List.set_cons_succ]
  have c1 : (w1.setCell ⟨w.heap.size + 2, 0, none⟩ (.int .i64 (ax + dx * k / n))).cell? ⟨w.heap.size + 2, 1, none⟩ = some z1 := by
    rw [World.cell?_setCell_other _ _ _ _ (fun e => by injection e; omega)]; exact x1
  have y1 := World.cell?_setCell_same _ ⟨w.heap.size + 2, 1, none⟩ (.int .i64 (ay + dy * k / n)) c1
  have y0 : ((w1.setCell ⟨w.heap.size + 2, 0, none⟩ (.int .i64 (ax + dx * k / n))).setCell ⟨w.heap.size + 2, 1, none⟩ (.int .i64 (ay + dy * k / n))).cell? ⟨w.heap.size + 2, 0, none⟩ = some (.int .i64 (ax + dx * k / n)) := by
    rw [World.cell?_setCell_other _ _ _ _ (fun e => by injection e; omega)]
    exact World.cell?_setCell_same _ ⟨w.heap.size + 2, 0, none⟩ _ x0
  go_wp2
  refine bodyPost_ret (v := .agg #[.int .i64 (ax + dx * k / n), .int .i64 (ay + dy * k / n)]) (by simp [results, Tryz.results64, go_sem, y0, y1]) rfl ⟨by rw [HDX.out.1, HDX.out.2], ?_⟩
  exact (N1.out.setCell (by simp) _).setCell (by simp) _
def walkD (ns : List Int) (a b : Pnt) (n : Int) : Nat → Dg → Int → Dg
 | 0, d, _ => d
 | f + 1, d, g => if d.left ≤ n - g then (if 2400 < (turnD ns d (placeV a b (g + d.left) n)).begun then turnD ns d (placeV a b (g + d.left) n) else walkD ns a b n f (turnD ns d (placeV a b (g + d.left) n)) (g + d.left)) else reachD ⟨d.at', d.left - (n - g), d.begun, d.p, d.o⟩ b
def alongD (ns : List Int) (d : Dg) (a b : Pnt) : Dg := if szV a b = 0 then d else walkD ns a b (szV a b) (2401 - d.begun + 1) d 0
structure DB (c : Nat) (d : Dg) : Prop where
 ha : d.at' ≤ d.begun + 16
 hp : d.p.length ≤ c
 ho : d.o.length ≤ d.begun
 h0 : 0 ≤ d.left
 h1 : d.left ≤ 67108864
 hb : d.begun ≤ 2401 + c
 hm : manyL d.o + d.p.length ≤ 2 * d.begun + c
def NB (ns : List Int) : Prop := 0 < ns.length ∧ ∀ i, i < ns.length → 0 ≤ intAt ns i ∧ intAt ns i ≤ 67108864
theorem turn_is (ns : List Int) (d : Dg) (q : Pnt) : (turnD ns d q).begun = d.begun + 1 ∧ (turnD ns d q).at' = d.at' + 1 ∧ (turnD ns d q).p.length ≤ 1 ∧ (turnD ns d q).o.length ≤ d.o.length + 1 ∧ (turnD ns d q).left = intAt ns ((d.at' + 1) % ns.length) ∧ manyL (turnD ns d q).o + (turnD ns d q).p.length ≤ manyL d.o + d.p.length + 2 := by
 obtain ⟨b1, b2, b3, b4, b5⟩ := rD_bd d q
 obtain ⟨c1, c2, c3, c4, c5⟩ := rD_bd (moreD (nextD ns (layD (reachD d q)))) q
 have e := endL_len (reachD d q).o (reachD d q).p false
 have em := endL_many (reachD d q).o (reachD d q).p false
 have ho : (turnD ns d q).o = endL (reachD d q).o (reachD d q).p false := c2
 have hp : (turnD ns d q).p.length ≤ 1 := Nat.le_trans c1 (Nat.le_refl _)
 refine ⟨c4.trans ?_, c3.trans ?_, hp, ?_, c5.trans ?_, by rw [ho]; rw [b2] at em ⊢; omega⟩
 ·show (reachD d q).begun + 1 = _; rw [b4]
 ·show (reachD d q).at' + 1 = _; rw [b3]
 ·show (reachD (moreD (nextD ns (layD (reachD d q)))) q).o.length ≤ _
  rw [c2]
  show (endL (reachD d q).o (reachD d q).p false).length ≤ _
  rw [b2] at e ⊢
  exact e
 ·show intAt ns (((reachD d q).at' + 1) % ns.length) = _; rw [b3]
theorem DB.turn {c : Nat} {d : Dg} {ns : List Int} (h : DB c d) (hc : 1 ≤ c) (hn : NB ns) (q : Pnt) (hb : d.begun + 1 ≤ 2401 + c) : DB c (turnD ns d q) := by
 obtain ⟨t1, t2, t3, t4, t5, t6⟩ := turn_is ns d q
 obtain ⟨n1, n2⟩ := hn.2 _ (Nat.mod_lt (d.at' + 1) hn.1)
 exact ⟨by rw [t1, t2]; have := h.ha; omega, by omega, by rw [t1]; have := h.ho; omega, by rw [t5]; exact n1, by rw [t5]; exact n2, by rw [t1]; exact hb, by rw [t1]; have := h.hm; omega⟩
theorem DB.more {c : Nat} {d : Dg} (h : DB c d) : DB (c + 1) d := ⟨h.ha, by have := h.hp; omega, h.ho, h.h0, h.h1, by have := h.hb; omega, by have := h.hm; omega⟩
set_option maxRecDepth 100000 in
set_option maxHeartbeats 8000000 in
theorem ialong (w0 w : World) (bx : Nat) (K : List (Nat × Int × Int)) (na : Option Addr) (nc : Nat) (ns : List Int) (d : Dg) (ax ay ex ey : Int) (c : Nat) (hb0 : w0.heap.size ≤ bx) (hna : nearB (ax, ay) = true) (hnb : nearB (ex, ey) = true) (hI : Ints w0 na ns) (hns : NB ns) (hc : 1 ≤ c) (hc2 : c ≤ 10000) (hdb : DB c d) (h : DhS bx w0 w K na nc ns d) :
  Calls Tryz.prog 33 #[.pointer (some ⟨bx, 0, none⟩), .agg #[.int .i64 ax, .int .i64 ay], .agg #[.int .i64 ex, .int .i64 ey]] w fun e w' => e = .returned (.tuple #[]) ∧ DhS bx w0 w' K na nc ns (alongD ns d (ax, ay) (ex, ey)) ∧ DB (c + 1) (alongD ns d (ax, ay) (ex, ey)) := by
 have HSZ : Hid (∀ w, _) := fun w => isizeOf w (ax, ay) (ex, ey)
 have e1 : soV (ax, ay) (ex, ey) = (szV (ax, ay) (ex, ey), true) := by unfold soV; rw [if_pos ⟨hna, hnb⟩]
 rw [e1] at HSZ
 simp only at HSZ
 have hn0 : 0 ≤ szV (ax, ay) (ex, ey) := (szV_is _ _).1
 have hn1 : szV (ax, ay) (ex, ey) ≤ 268435455 := szV_le hna hnb
 obtain ⟨R, hR⟩ : ∃ R, alongD ns d (ax, ay) (ex, ey) = R := ⟨_, rfl⟩
 rw [hR]
 obtain ⟨n, hn⟩ : ∃ n, szV (ax, ay) (ex, ey) = n := ⟨_, rfl⟩
 have hR2 : (if n = 0 then d else walkD ns (ax, ay) (ex, ey) n (2401 - d.begun + 1) d 0) = R := by rw [← hR, ← hn]; rfl
 rw [hn] at HSZ hn0 hn1
 obtain ⟨W2, hW2⟩ : ∃ W2, (w.alloc (.cells #[.int .i64 ax, .int .i64 ay] 34)).alloc (.cells #[.int .i64 ex, .int .i64 ey] 34) = W2 := ⟨_, rfl⟩
 have h2 := DhS.box (DhS.box h ax ay 34) ex ey 34
 rw [hW2, World.size_alloc] at h2
 obtain ⟨ba, hba⟩ : ∃ ba, w.heap.size = ba := ⟨_, rfl⟩
 rw [hba] at h2
 have H2 : Hid (DhS bx w0 W2 ((ba + 1, ex, ey) :: (ba, ax, ay) :: K) na nc ns d) := h2
 have HNA : Hid (nr ax ∧ nr ay ∧ nr ex ∧ nr ey) := ⟨(nearB_nr hna).1, (nearB_nr hna).2, (nearB_nr hnb).1, (nearB_nr hnb).2⟩
 have HW2 : Hid (_ = W2) := hW2
 have HBA : Hid (w.heap.size = ba) := hba
 have HI : Hid (Ints w0 na ns) := hI
 have HNB : Hid (NB ns) := hns
 have HDB : Hid (DB c d) := hdb
 obtain ⟨q0, q1⟩ := DhS.at H2.out (b := ba) (x := ax) (y := ay) (by simp)
 obtain ⟨q2, q3⟩ := DhS.at H2.out (b := ba + 1) (x := ex) (y := ey) (by simp)
 clear h h2 hW2 hba hI hns hdb hna hnb e1 hR
 by_cases hz : n = 0
 ·subst hz
  have HR : Hid (R = d) := by show _ = _; rw [← hR2, if_pos rfl]
  clear hR2 hn
  go_enter Tryz.func33, Tryz.ntmps33
  go_wp2_with fail
  rw [HW2.out]
  refine Calls.mono (HSZ.out _) ?_
  rintro e w3 ⟨rfl, k3⟩
  have H3 : Hid (DhS bx w0 w3 K na nc ns d) := DhS.sub (DhS.nw H2.out k3.nw) (fun k hk => by simp [hk])
  clear k3 q0 q1 q2 q3
  go_wp2
  (try simp only [Exit.inBlock, Exit.then])
  refine bodyPost_ret (results_none rfl _ _ _) rfl ?_
  exact ⟨rfl, by rw [HR.out]; exact ⟨H3.out, HDB.out.more⟩⟩
 ·have HR : Hid (walkD ns (ax, ay) (ex, ey) n (2401 - d.begun + 1) d 0 = R) := by show _ = _; rw [← hR2, if_neg hz]
  have hz1 : (n == 0) = false := by simp [hz]
  clear hR2 hn
  go_enter Tryz.func33, Tryz.ntmps33
  go_wp2_with fail
  rw [HW2.out, HBA.out]
  refine Calls.mono (HSZ.out _) ?_
  rintro e w3 ⟨rfl, k3⟩
  have H3 : Hid (DhS bx w0 w3 ((ba + 1, ex, ey) :: (ba, ax, ay) :: K) na nc ns d) := DhS.nw H2.out k3.nw
  clear k3 q0 q1 q2 q3 H2
  go_wp2
  clear hz1
  go_loopw [8] (fun g wr => ∃ gi : Int, g = .int .i64 gi ∧ 0 ≤ gi ∧ gi ≤ n ∧ ∃ d', DhS bx w0 wr ((ba + 1, ex, ey) :: (ba, ax, ay) :: K) na nc ns d' ∧ DB c d' ∧ walkD ns (ax, ay) (ex, ey) n (2401 - d'.begun + 1) d' gi = R) (fun _ wr => 30000 - (intOf ((wr.cell? ⟨bx, 3, none⟩).getD undef)).toNat)
  case atStart => exact ⟨0, rfl, by omega, by omega, d, H3.out, HDB.out, HR.out⟩
  case round =>
   obtain ⟨gi, rfl, hg0, hg1, d', hd', hdb', hr'⟩ := hrel
   have HD : Hid (DhS bx w0 wr ((ba + 1, ex, ey) :: (ba, ax, ay) :: K) na nc ns d') := hd'
   have HB' : Hid (DB c d') := hdb'
   have HR' : Hid (walkD ns (ax, ay) (ex, ey) n (2401 - d'.begun + 1) d' gi = R) := hr'
   have hl0 := hdb'.h0
   have hl1 := hdb'.h1
   have hbg := hdb'.hb
   obtain ⟨v, it, u, dh, _, _, _⟩ := hd'
   have c2 := dh.c2
   have c3 := dh.c3
   have fr := dh.free
   obtain ⟨q0, q1⟩ := DhS.at HD.out (b := ba) (x := ax) (y := ay) (by simp)
   obtain ⟨q2, q3⟩ := DhS.at HD.out (b := ba + 1) (x := ex) (y := ey) (by simp)
   clear hdb' hr' dh
   obtain ⟨lf, hlf⟩ : ∃ lf, d'.left = lf := ⟨_, rfl⟩
   have HLF : Hid (d'.left = lf) := hlf
   obtain ⟨bg, hbgn⟩ : ∃ bg, d'.begun = bg := ⟨_, rfl⟩
   have HBG : Hid (d'.begun = bg) := hbgn
   rw [hlf] at c2 hl0 hl1
   rw [hbgn] at c3 hbg
   by_cases hle : lf ≤ n - gi
   ·have dl : decide (lf ≤ n - gi) = true := decide_eq_true hle
    obtain ⟨q, hq⟩ : ∃ q, placeV (ax, ay) (ex, ey) (gi + lf) n = q := ⟨_, rfl⟩
    have HRT : Hid ((if 2400 < (turnD ns d' q).begun then turnD ns d' q else walkD ns (ax, ay) (ex, ey) n (2401 - bg) (turnD ns d' q) (gi + lf)) = R) := by
     have := HR'.out
     rw [HBG.out] at this
     rw [walkD, if_pos (by rw [HLF.out]; exact hle), HLF.out, hq] at this
     exact this
    have HPL : Hid (∀ w, _) := fun w => iplace w ax ay ex ey (gi + lf) n HNA.out.1 HNA.out.2.1 HNA.out.2.2.1 HNA.out.2.2.2 (by omega) (by omega) (by omega) (by omega)
    rw [hq] at HPL
    obtain ⟨t1, t2, t3, t4, t5, t6⟩ := turn_is ns d' q
    have HT1 : Hid ((turnD ns d' q).begun = bg + 1) := by show _ = _; rw [t1, HBG.out]
    obtain ⟨px, py⟩ := q
    simp only at HPL
    have HDT : Hid (∀ c2, 1 ≤ c2 → DB c2 d' → bg + 1 ≤ 2401 + c2 → DB c2 (turnD ns d' (px, py))) := fun c2 h1 h2 h3 => DB.turn h2 h1 HNB.out _ (by rw [HBG.out]; exact h3)
    have hwa : IntKind.i64.wrap (gi + lf) = gi + lf := IntWalk.i64_in _ ⟨by omega, by omega⟩
    clear hq t1 t2 t3 t4 t5 t6 hlf hbgn
    go_wp2_with fail
    refine Calls.mono (HPL.out _) ?_
    rintro e w4 ⟨rfl, n4⟩
    have H4 : Hid (DhS bx w0 w4 ((ba + 1, ex, ey) :: (ba, ax, ay) :: K) na nc ns d') := DhS.nw HD.out n4
    clear n4
    go_wp2_with fail
    refine Calls.mono (iturn w0 w4 bx _ na nc ns d' px py hb0 HNB.out.1 (by have := HB'.out.ha; have := HB'.out.hb; omega) (by have := HB'.out.hb; omega) (by have := HB'.out.hp; omega) (by have := HB'.out.ho; have := HB'.out.hb; omega) HI.out H4.out) ?_
    rintro e w5 ⟨rfl, h5⟩
    have H5 : Hid (DhS bx w0 w5 ((ba + 1, ex, ey) :: (ba, ax, ay) :: K) na nc ns (turnD ns d' (px, py))) := h5
    obtain ⟨v5, it5, u5, dh5, _, _, _⟩ := h5
    have c35 := dh5.c3
    rw [HT1.out] at c35
    simp only [Int.natCast_add, Int.cast_ofNat_Int] at c35
    clear dh5
    by_cases hgt : 2400 < bg + 1
    ·have dg : decide ((2400 : Int) < (bg : Int) + 1) = true := by simp; omega
     have HRT2 : Hid (R = turnD ns d' (px, py)) := by
      show _ = _
      have := HRT.out
      rw [HT1.out, if_pos hgt] at this
      exact this.symm
     clear c2 c3 fr q0 q1 q2 q3 dl hwa
     go_wp2
     (try simp only [Exit.inBlock, Exit.then])
     refine bodyPost_ret (results_none rfl _ _ _) rfl ?_
     refine ⟨rfl, ?_⟩
     rw [HRT2.out]
     exact ⟨DhS.sub H5.out (fun k hk => by simp [hk]), HDT.out (c + 1) (by omega) HB'.out.more (by have := HB'.out.hb; omega)⟩
    ·have dg : decide ((2400 : Int) < (bg : Int) + 1) = false := by simp; omega
     have HRT2 : Hid (walkD ns (ax, ay) (ex, ey) n (2401 - (turnD ns d' (px, py)).begun + 1) (turnD ns d' (px, py)) (gi + lf) = R) := by
      show _ = _
      have := HRT.out
      rw [HT1.out, if_neg hgt] at this
      rw [HT1.out, show 2401 - (bg + 1) + 1 = 2401 - bg by omega]
      exact this
     have c3' := c3
     clear c2 c3 fr q0 q1 q2 q3 dl hwa
     go_wp2
     go_roundw
     case rel => exact ⟨gi + lf, rfl, by omega, by omega, _, H5.out, HDT.out c hc HB'.out (by omega), HRT2.out⟩
     case measure => rw [c35, c3']; simp [intOf]; omega
   ·have dl : decide (lf ≤ n - gi) = false := decide_eq_false hle
    have HRT : Hid (R = reachD ⟨d'.at', lf - (n - gi), d'.begun, d'.p, d'.o⟩ (ex, ey)) := by
     show _ = _
     have := HR'.out
     rw [walkD, if_neg (by rw [HLF.out]; exact hle), HLF.out] at this
     exact this.symm
    have hw1 : IntKind.i64.wrap (n - gi) = n - gi := IntWalk.i64_in _ ⟨by omega, by omega⟩
    have hw2 : IntKind.i64.wrap (lf - (n - gi)) = lf - (n - gi) := IntWalk.i64_in _ ⟨by omega, by omega⟩
    have H5 : Hid (DhS bx w0 (wr.setCell ⟨bx, 2, none⟩ (.int .i64 (lf - (n - gi)))) ((ba + 1, ex, ey) :: (ba, ax, ay) :: K) na nc ns ⟨d'.at', lf - (n - gi), d'.begun, d'.p, d'.o⟩) := by
     obtain ⟨v, it, u, dh, o1, n1, k1⟩ := HD.out
     obtain ⟨s1, s2⟩ := DH.setL dh (lf - (n - gi))
     exact DhS.of s1 o1 (Below.trans n1 (Below.mono s2 hb0)) rfl rfl rfl rfl (Kb.set k1 2 _)
    obtain ⟨r2, r3⟩ := DhS.at H5.out (b := ba + 1) (x := ex) (y := ey) (by simp)
    have HDB2 : Hid (DB (c + 1) (reachD ⟨d'.at', lf - (n - gi), d'.begun, d'.p, d'.o⟩ (ex, ey))) := by
     obtain ⟨b1, b2, b3, b4, b5⟩ := rD_bd ⟨d'.at', lf - (n - gi), d'.begun, d'.p, d'.o⟩ (ex, ey)
     simp only at b1 b2 b3 b4 b5
     have g1 := HB'.out.ha
     have g2 := HB'.out.hp
     have g3 := HB'.out.ho
     have g4 := HB'.out.hb
     have g5 := HB'.out.hm
     exact ⟨by rw [b3, b4]; exact g1, by omega, by rw [b2, b4]; exact g3, by rw [b5]; omega, by rw [b5]; omega, by rw [b4]; omega, by rw [b2, b4]; omega⟩
    clear hlf hbgn c3 q0 q1 q2 q3
    go_wp2_with fail
    refine Calls.mono (ireach w0 _ bx _ na nc ns ⟨d'.at', lf - (n - gi), d'.begun, d'.p, d'.o⟩ ex ey hb0 (by have := HB'.out.hp; show d'.p.length ≤ _; omega) H5.out) ?_
    rintro e w6 ⟨rfl, h6⟩
    have H6 : Hid _ := h6
    clear h6 c2 fr r2 r3 dl hw1 hw2
    go_wp2
    go_end0
    refine ⟨rfl, ?_⟩
    rw [HRT.out]
    exact ⟨DhS.sub H6.out (fun k hk => by simp [hk]), HDB2.out⟩
def sumN (ns : List Int) : Nat → Int
 | 0 => 0
 | k + 1 => sumN ns k + intAt ns k
def sumR (ns : List Int) : Nat → Int
 | 0 => 0
 | k + 1 => sumR ns k + intAt ns (k % ns.length)
theorem sumN_bd {ns : List Int} (h : ∀ i, i < ns.length → 0 ≤ intAt ns i ∧ intAt ns i ≤ 67108864) : ∀ k, k ≤ ns.length → 0 ≤ sumN ns k ∧ sumN ns k ≤ 67108864 * k
 | 0, _ => ⟨by simp [sumN], by simp [sumN]⟩
 | k + 1, hk => by
  obtain ⟨h1, h2⟩ := sumN_bd h k (by omega)
  obtain ⟨h3, h4⟩ := h k (by omega)
  show 0 ≤ sumN ns k + intAt ns k ∧ sumN ns k + intAt ns k ≤ _
  omega
theorem sumR_N {ns : List Int} : ∀ k, k ≤ ns.length → sumR ns k = sumN ns k
 | 0, _ => rfl
 | k + 1, hk => by
  show sumR ns k + intAt ns (k % ns.length) = sumN ns k + intAt ns k
  rw [sumR_N k (by omega), Nat.mod_eq_of_lt (by omega)]
theorem sumR_more (ns : List Int) : ∀ j, sumR ns (ns.length + j) = sumR ns ns.length + sumR ns j
 | 0 => by simp [sumR]
 | j + 1 => by
  show sumR ns (ns.length + j) + intAt ns ((ns.length + j) % ns.length) = sumR ns ns.length + (sumR ns j + intAt ns (j % ns.length))
  rw [sumR_more ns j, Nat.add_mod_left]
  omega
theorem sumR_step {ns : List Int} (h : NB ns) (k : Nat) : sumR ns k ≤ sumR ns (k + 1) ∧ sumR ns (k + 1) ≤ sumR ns k + 67108864 := by
 obtain ⟨h1, h2⟩ := h.2 _ (Nat.mod_lt k h.1)
 show sumR ns k ≤ sumR ns k + intAt ns (k % ns.length) ∧ sumR ns k + intAt ns (k % ns.length) ≤ _
 omega
theorem sumR_mono {ns : List Int} (h : NB ns) (a : Nat) : ∀ j, sumR ns a ≤ sumR ns (a + j)
 | 0 => Int.le_refl _
 | j + 1 => Int.le_trans (sumR_mono h a j) (sumR_step h (a + j)).1
theorem sumR_lt {ns : List Int} (h : NB ns) {a b : Nat} {f : Int} (h1 : sumR ns a ≤ f) (h2 : f < sumR ns b) : a < b := by
 rcases Nat.lt_or_ge a b with h3 | h3
 ·exact h3
 ·have := sumR_mono h b (a - b)
  rw [show b + (a - b) = a by omega] at this
  omega
theorem sumR_nn {ns : List Int} (h : NB ns) (k : Nat) : 0 ≤ sumR ns k := by
 have := sumR_mono h 0 k
 simpa [sumR] using this
set_option maxHeartbeats 1000000 in
theorem isum (w : World) (a : Option Addr) (c : Nat) (ns : List Int) (hl : ns.length ≤ 8) (hb : ∀ i, i < ns.length → 0 ≤ intAt ns i ∧ intAt ns i ≤ 67108864) (hr : Ints w a ns) :
  Calls Tryz.prog 29 #[.slice a ns.length c] w fun e w' => e = .returned (.int .i64 (sumN ns ns.length)) ∧ w' = w := by
 have HR : Hid (Ints w a ns) := hr
 have HB : Hid _ := hb
 clear hr hb
 obtain ⟨n, hn⟩ : ∃ n, ns.length = n := ⟨_, rfl⟩
 have HN : Hid (ns.length = n) := hn
 rw [hn] at hl ⊢
 clear hn
 go_enter Tryz.func29, Tryz.ntmps29
 go_wp2
 go_loop [3, 8] (fun s i => ∃ k : Nat, k ≤ n ∧ i = .int .i64 (k : Int) ∧ s = .int .i64 (sumN ns k)) (fun _ i => n - (intOf i).toNat)
 case atStart => exact ⟨0, Nat.zero_le _, rfl, rfl⟩
 case round =>
  obtain ⟨k, hk, rfl, rfl⟩ := hrel
  by_cases hlt : k < n
  ·rcases HR.out with h | ⟨b, off, rfl, hbb, hc⟩
   ·have := HN.out; rw [h] at this; simp at this; omega
   have q := hc k (by rw [HN.out]; exact hlt)
   obtain ⟨b1, b2⟩ := sumN_bd HB.out k (by rw [HN.out]; exact hk)
   obtain ⟨b3, b4⟩ := HB.out k (by rw [HN.out]; exact hlt)
   have HS : Hid (sumN ns (k + 1) = sumN ns k + intAt ns k) := rfl
   clear hc
   generalize intAt ns k = x at *
   generalize hs : sumN ns k = s at *
   clear hs
   have hw : IntKind.i64.wrap (s + x) = s + x := IntWalk.i64_in _ ⟨by omega, by omega⟩
   go_wp2
   go_round
   case rel => exact ⟨k + 1, by omega, by go_num, by rw [HS.out]⟩
   case measure => simp [intOf]; omega
  ·have hkn : k = n := by omega
   subst hkn
   go_wp2
   go_ret
   exact ⟨rfl, rfl⟩
def rndN (ns : List Int) : Int := if ns.length % 2 = 1 then sumN ns ns.length * 2 else sumN ns ns.length
def rndL (ns : List Int) : Nat := if ns.length % 2 = 1 then ns.length + ns.length else ns.length
theorem rnd_is (ns : List Int) : sumR ns (rndL ns) = rndN ns := by
 unfold rndL rndN
 split
 ·rw [sumR_more, sumR_N _ (Nat.le_refl _)]; omega
 ·exact sumR_N _ (Nat.le_refl _)
def skK (ns : List Int) (f0 : Int) : Nat → Nat → Nat
 | 0, k => k
 | f + 1, k => if sumR ns (k + 1) ≤ f0 then skK ns f0 f (k + 1) else k
def startD (ns : List Int) (f0 : Int) : Dg := ⟨skK ns f0 17 0, sumR ns (skK ns f0 17 0 + 1) - f0, 0, [], []⟩
theorem skK_is {ns : List Int} (h : NB ns) (f0 : Int) : ∀ f k, sumR ns k ≤ f0 → f0 < sumR ns (k + f) → sumR ns (skK ns f0 f k) ≤ f0 ∧ f0 < sumR ns (skK ns f0 f k + 1)
 | 0, k, h1, h2 => absurd h2 (by rw [Nat.add_zero]; omega)
 | f + 1, k, h1, h2 => by
  by_cases hc : sumR ns (k + 1) ≤ f0
  ·rw [skK, if_pos hc]
   exact skK_is h f0 f (k + 1) hc (by rw [show k + 1 + f = k + (f + 1) by omega]; exact h2)
  ·rw [skK, if_neg hc]
   exact ⟨h1, by omega⟩
theorem start_DB {ns : List Int} (h : NB ns) (hl : ns.length ≤ 8) {f0 : Int} (h0 : 0 ≤ f0) (h1 : f0 < rndN ns) : DB 0 (startD ns f0) := by
 have hrl : rndL ns ≤ 16 := by unfold rndL; split <;> omega
 have hri := rnd_is ns
 have h17 : f0 < sumR ns (0 + 17) := by
  have := sumR_mono h (rndL ns) (17 - rndL ns)
  rw [show rndL ns + (17 - rndL ns) = 17 by omega, hri] at this
  rw [Nat.zero_add]
  omega
 obtain ⟨a1, a2⟩ := skK_is h f0 17 0 (by simpa [sumR] using h0) h17
 have a3 := sumR_lt h a1 (by rw [hri]; exact h1)
 have a4 := sumR_step h (skK ns f0 17 0)
 exact ⟨by show skK ns f0 17 0 ≤ 0 + 16; omega, Nat.le_refl _, Nat.le_refl _, by show 0 ≤ sumR ns (skK ns f0 17 0 + 1) - f0; omega, by show sumR ns (skK ns f0 17 0 + 1) - f0 ≤ _; omega, Nat.zero_le _, by show manyL [] + 0 ≤ _; simp [manyL]⟩
theorem DB.reach {c : Nat} {d : Dg} (h : DB c d) (q : Pnt) : DB (c + 1) (reachD d q) := by
 obtain ⟨b1, b2, b3, b4, b5⟩ := rD_bd d q
 exact ⟨by rw [b3, b4]; exact h.ha, by have := h.hp; omega, by rw [b2, b4]; exact h.ho, by rw [b5]; exact h.h0, by rw [b5]; exact h.h1, by rw [b4]; have := h.hb; omega, by rw [b2, b4]; have := h.hm; omega⟩
set_option maxRecDepth 100000 in
set_option maxHeartbeats 4000000 in
theorem iskip (w0 w : World) (bx : Nat) (K : List (Nat × Int × Int)) (na : Option Addr) (nc : Nat) (ns : List Int) (f : Int) (hb0 : w0.heap.size ≤ bx) (hl : ns.length ≤ 8) (hns : NB ns) (hpos : 0 < sumN ns ns.length) (hf0 : 0 ≤ f) (hf1 : f ≤ 67108864) (hI : Ints w0 na ns) (h : DhS bx w0 w K na nc ns ⟨0, intAt ns 0, 0, [], []⟩) :
  Calls Tryz.prog 31 #[.pointer (some ⟨bx, 0, none⟩), .int .i64 f] w fun e w' => e = .returned (.tuple #[]) ∧ DhS bx w0 w' K na nc ns (startD ns (f % rndN ns)) := by
 obtain ⟨s1, s2⟩ := sumN_bd hns.2 ns.length (Nat.le_refl _)
 have hrp : 0 < rndN ns ∧ rndN ns ≤ 67108864 * 16 := by unfold rndN; split <;> omega
 have hrl : rndL ns ≤ 16 := by unfold rndL; split <;> omega
 have hri := rnd_is ns
 obtain ⟨v, it, u, dh, o0, n0, k0⟩ := h
 have c0 := dh.c0
 have H0 : Hid (DhS bx w0 w K na nc ns ⟨0, intAt ns 0, 0, [], []⟩) := ⟨v, it, u, dh, o0, n0, k0⟩
 have HSU : Hid _ := isum w na nc ns hl hns.2 (Ints.nw hI n0)
 have HI : Hid (Ints w0 na ns) := hI
 have HNB : Hid (NB ns) := hns
 have HRN : Hid (rndN ns = if ns.length % 2 = 1 then sumN ns ns.length * 2 else sumN ns ns.length) := rfl
 have htm : ((ns.length : Int)).tmod 2 = ((ns.length % 2 : Nat) : Int) := by
  rw [Int.tmod_eq_emod_of_nonneg (by omega)]
  first | exact (Int.natCast_emod _ _).symm | rfl
 obtain ⟨f0, hf⟩ : ∃ f0, f % rndN ns = f0 := ⟨_, rfl⟩
 have hfa : 0 ≤ f0 := by rw [← hf]; exact Int.emod_nonneg _ (by omega)
 have hfb : f0 < rndN ns := by rw [← hf]; exact Int.emod_lt_of_pos _ hrp.1
 have hft : f.tmod (rndN ns) = f0 := by rw [Int.tmod_eq_emod_of_nonneg hf0]; exact hf
 rw [hf]
 have HLT : Hid (∀ k, sumR ns k ≤ f0 → k < 16) := fun k hk => by
  have := sumR_lt hns hk (by rw [hri]; exact hfb)
  omega
 have HST : Hid (startD ns f0 = ⟨skK ns f0 17 0, sumR ns (skK ns f0 17 0 + 1) - f0, 0, [], []⟩) := rfl
 generalize hsn : sumN ns ns.length = sn at *
 generalize hr : rndN ns = r at *
 clear dh o0 n0 k0 hI hns hri hf hsn hr
 obtain ⟨n, hn⟩ : ∃ n, ns.length = n := ⟨_, rfl⟩
 have HN : Hid (ns.length = n) := hn
 rw [hn] at c0 HSU HRN hl htm s2
 clear hn
 go_enter Tryz.func31, Tryz.ntmps31
 go_wp2_with fail
 refine Calls.mono HSU.out ?_
 rintro e w1 ⟨rfl, rfl⟩
 have hrem : n % 2 < 2 := Nat.mod_lt _ (by omega)
 go_upto_if 16 with fail
 go_cut [4] (fun rr wx => rr = .int .i64 r ∧ w1 = wx)
 case first =>
  by_cases hodd : n % 2 = 1
  ·have hr2 : r = sn * 2 := by rw [HRN.out, if_pos hodd]
   have hd : ((n : Int).tmod 2 == 1) = true := by rw [htm, hodd]; rfl
   have hw : IntKind.i64.wrap (sn * 2) = sn * 2 := IntWalk.i64_in _ ⟨by omega, by omega⟩
   go_wp2
   go_meet
   exact ⟨by rw [hr2], rfl⟩
  ·have hr2 : r = sn := by rw [HRN.out, if_neg hodd]
   have hz : n % 2 = 0 := by omega
   have hd : ((n : Int).tmod 2 == 1) = false := by rw [htm, hz]; rfl
   go_wp2
   go_meet
   exact ⟨by rw [hr2], rfl⟩
 case rest =>
  obtain ⟨rfl, hwc⟩ := hcut
  subst hwc
  have hr0 : ¬ r = 0 := by omega
  clear htm hrem c0 HRN
  go_wp2
  go_loopw [1] (fun fr wr => ∃ k : Nat, fr = .int .i64 (f0 - sumR ns k) ∧ sumR ns k ≤ f0 ∧ skK ns f0 (17 - k) k = skK ns f0 17 0 ∧ DhS bx w0 wr K na nc ns ⟨k, intAt ns (k % ns.length), 0, [], []⟩) (fun _ wr => 100 - (intOf ((wr.cell? ⟨bx, 1, none⟩).getD undef)).toNat)
  case atStart => exact ⟨0, by simp [sumR], by simpa [sumR] using hfa, rfl, by rw [Nat.zero_mod]; exact H0.out⟩
  case round =>
   obtain ⟨k, rfl, hk1, hk2, hk3⟩ := hrel
   have HK2 : Hid (skK ns f0 (17 - k) k = skK ns f0 17 0) := hk2
   have HK3 : Hid (DhS bx w0 wr K na nc ns ⟨k, intAt ns (k % ns.length), 0, [], []⟩) := hk3
   have hk16 := HLT.out k hk1
   obtain ⟨v, it, u, dh, _, _, _⟩ := hk3
   have c1 := dh.c1
   have c2 := dh.c2
   have fr := dh.free
   simp only at c1 c2
   have HSS : Hid (sumR ns (k + 1) = sumR ns k + intAt ns (k % ns.length)) := rfl
   obtain ⟨x1, x2⟩ := HNB.out.2 _ (Nat.mod_lt k HNB.out.1)
   have hsn := sumR_nn HNB.out k
   have HKK : Hid (skK ns f0 (17 - k) k = if sumR ns (k + 1) ≤ f0 then skK ns f0 (16 - k) (k + 1) else k) := by
    show _ = _
    rw [show 17 - k = (16 - k) + 1 by omega]
    rfl
   clear dh hk2
   generalize hx : intAt ns (k % ns.length) = x at *
   generalize hs : sumR ns k = s at *
   have HX : Hid (intAt ns (k % ns.length) = x) := hx
   have HS : Hid (sumR ns k = s) := hs
   clear hx hs
   have hw1 : IntKind.i64.wrap (f0 - s - x) = f0 - s - x := IntWalk.i64_in _ ⟨by omega, by omega⟩
   have hw2 : IntKind.i64.wrap (x - (f0 - s)) = x - (f0 - s) := IntWalk.i64_in _ ⟨by omega, by omega⟩
   by_cases hle : x ≤ f0 - s
   ·have dl : decide (x ≤ f0 - s) = true := decide_eq_true hle
    have H1 : Hid (sumR ns (k + 1) ≤ f0) := by show _ ≤ _; rw [HSS.out]; omega
    have HKN : Hid (skK ns f0 (17 - (k + 1)) (k + 1) = skK ns f0 17 0) := by
     show _ = _
     rw [← HK2.out, HKK.out, if_pos H1.out, show 17 - (k + 1) = 16 - k by omega]
    clear c1
    go_wp2_with fail
    refine Calls.mono (inext w0 wr bx _ na nc ns ⟨k, x, 0, [], []⟩ hb0 HNB.out.1 (by show k ≤ _; omega) HI.out HK3.out) ?_
    rintro e w4 ⟨rfl, h4⟩
    have H4 : Hid (DhS bx w0 w4 K na nc ns ⟨k + 1, intAt ns ((k + 1) % ns.length), 0, [], []⟩) := h4
    obtain ⟨v4, it4, u4, dh4, _, _, _⟩ := h4
    have c14 := dh4.c1
    obtain ⟨v3, it3, u3, dh3, _, _, _⟩ := HK3.out
    have c13 := dh3.c1
    have hk17 := HLT.out (k + 1) H1.out
    simp only [nextD, Int.natCast_add, Int.cast_ofNat_Int] at c14 c13
    clear dh4 dh3 c2 fr
    go_wp2
    go_roundw
    case rel => exact ⟨k + 1, by rw [HSS.out]; congr 1; omega, H1.out, HKN.out, H4.out⟩
    case measure => rw [c14, c13]; simp [intOf]; omega
   ·have dl : decide (x ≤ f0 - s) = false := decide_eq_false hle
    have H1 : Hid (¬ sumR ns (k + 1) ≤ f0) := by show ¬ _; rw [HSS.out]; omega
    have HKN : Hid (skK ns f0 17 0 = k) := by show _ = _; rw [← HK2.out, HKK.out, if_neg H1.out]
    have H5 : Hid (DhS bx w0 (wr.setCell ⟨bx, 2, none⟩ (.int .i64 (x - (f0 - s)))) K na nc ns ⟨k, sumR ns (k + 1) - f0, 0, [], []⟩) := by
     obtain ⟨v, it, u, dh, o1, n1, k1⟩ := HK3.out
     obtain ⟨s1, s2⟩ := DH.setL dh (x - (f0 - s))
     exact DhS.of s1 o1 (Below.trans n1 (Below.mono s2 hb0)) rfl (by show _ = sumR ns (k + 1) - f0; rw [HSS.out]; omega) rfl rfl (Kb.set k1 2 _)
    clear c1
    go_wp2
    go_end0
    refine ⟨rfl, ?_⟩
    rw [HST.out, HKN.out]
    exact H5.out
set_option maxRecDepth 100000 in
set_option maxHeartbeats 2000000 in
theorem iclone (w : World) (g off c : Nat) (p : List Pnt) (h0 : 0 < p.length) (h1 : p.length ≤ 100000) (hr : LieP w g off p) :
  Calls Tryz.prog 30 #[.slice (some ⟨g, off, none⟩) p.length c] w fun e w' => ∃ u, e = .returned u ∧ OwnP w' w.heap.size u p ∧ Nw w w' := by
 have n1 : Nw w (w.alloc (.cells #[] 34)) := (Below.refl _ _).alloc (Nat.le_refl _) _
 have HO : Hid (OwnQ 34 (w.alloc (.cells #[] 34)) w.heap.size (.slice (some ⟨w.heap.size, 0, none⟩) 0 0) []) := World.ownsRow_lit w #[] 0 (Nat.le_refl _) (by unfold maxLen; omega) (by simp)
 have HI : Hid _ := (LieP.nw hr n1).vv
 have HN : Hid (0 < p.length ∧ p.length ≤ 100000) := ⟨h0, h1⟩
 have NW : Hid (Nw w (w.alloc (.cells #[] 34))) := n1
 clear hr n1
 obtain ⟨n, hn⟩ : ∃ n, p.length = n := ⟨_, rfl⟩
 have HL : Hid (p.length = n) := hn
 rw [hn] at h0 h1 ⊢
 clear hn
 have hnil := fun (w : World) (a : Option Addr) (n c : Nat) => Lib.run_eql_slice_nil (P := Tryz.prog) w 23 34 a n c 0 0 under_pts
 go_enter Tryz.func30, Tryz.ntmps30
 go_wp2_with (at_builtin; (refine wpl_q 34 23 23 (.int .i64 0) (.int .i64 0) 16 under_pts under_pts Tryz.info34 (by decide) rfl (w.alloc (.cells #[] 34)) (.tmp 5) (.tmp 6) rfl w.heap.size (.slice (some ⟨w.heap.size, 0, none⟩) 0 0) [] (vP p) rfl HO.out g off n c (by rw [vP_len]; exact HL.out.symm) rfl HI.out (vP_one p) (by rw [vP_len]; exact HN.out.1) ?cl (by simp) rfl ?_))
 case cl => rw [vP_len]; have := HN.out; simp; omega
 intro g' c' w1 h2 h3
 have H2 : Hid (OwnP w1 w.heap.size (.slice (some ⟨g', 0, none⟩) n c') p) := by
  show OwnQ _ _ _ _ _
  simpa using h2
 have N2 : Hid (Nw w w1) := Below.trans NW.out (Ext.below h3 (fun g e => (OwnQ.lt HO.out g e).1) (by simp))
 clear h2 h3
 go_wp2
 go_ret
 exact ⟨_, rfl, by simpa [Nat.zero_add] using H2.out, N2.out⟩
structure DS4 where
 bl : Nat
 g : Nat
 off : Nat
 n : Nat
 pc : Nat
 cl : Bool
 P : World → Value → Prop
 W : World
 a0 : Act
structure DS4Ok (X : DS4) : Prop where
 c0 : X.W.cell? ⟨X.bl, 0, none⟩ = some (.slice (some ⟨X.g, X.off, none⟩) X.n X.pc)
 c1 : X.W.cell? ⟨X.bl, 1, none⟩ = some (.bool X.cl)
 hc : Calls Tryz.prog 30 #[.slice (some ⟨X.g, X.off, none⟩) X.n X.pc] X.W fun e w' => ∃ u, e = .returned u ∧ X.P w' u
 hn : ∀ w u, X.P w u → Nw X.W w
 hs : ∀ w u, X.P w u → ∃ a n c, u = .slice a n c
 e3 : X.a0.eval (.tmp 3) = .pointer (some ⟨X.bl, 0, none⟩)
 sz : X.a0.tmps.size = 85
def DS4.val0 (X : DS4) : Nat → Value
 | 3 => .pointer (some ⟨X.bl, 0, none⟩)
 | 7 => .bool true
 | 32 => .pointer (some ⟨X.bl, 0, none⟩)
 | 33 => .slice (some ⟨X.g, X.off, none⟩) X.n X.pc
 | 35 => .pointer (some ⟨X.bl, 1, none⟩)
 | 36 => .bool X.cl
 | _ => undef
def DS4.av : Nat → Option Nat
 | 34 => some 0
 | 37 => some 1
 | 38 => some 2
 | 6 => some 3
 | _ => none
def DS4.acts : List Nat := [2, 5, 6, 7]
def DS4.Wd (X : DS4) : Nat → (Nat → Value) → World → Prop
  | 0, _, w => w = X.W
  | 1, γ, w => X.P w (γ 0)
  | 2, γ, w => X.P w (γ 0) ∧ γ 1 = .agg #[γ 0, .bool X.cl]
  | 3, γ, w => ∃ w1, X.P w1 (γ 0) ∧ γ 2 = .slice (some ⟨w1.heap.size, 0, none⟩) 1 1 ∧ w = w1.alloc (.cells #[γ 0, .bool X.cl] 25)
  | _, γ, w => ∃ w1, X.P w1 (γ 0) ∧ γ 3 = .slice (some ⟨w1.heap.size, 0, none⟩) 1 1 ∧ w = w1.alloc (.cells #[γ 0, .bool X.cl] 25)
theorem DS4.chain : chainG (opsOf 4 Tryz.f6) DS4.acts = true := by kernel_rfl
theorem DS4.nodup : DS4.acts.Nodup := by decide
def DS4.L : List (Option Nat × Op × Option (Nat × Bool)) := [
 (some 32, .fieldAddr 25 (.tmp 3) 0, none),
 (some 33, .load 23 (.tmp 32), none),
 (some 34, .call { callee := .value (.func 30), args := #[(.tmp 33)], argTypes := #[23] }, none),
 (some 35, .fieldAddr 25 (.tmp 3) 1, none),
 (some 36, .load 4 (.tmp 35), none),
 (some 37, .build 25 #[(0, (.tmp 34)), (1, (.tmp 36))], none),
 (some 38, .buildSlice 29 1 #[(0, (.tmp 37))], none),
 (some 6, .assign (.tmp 38), none),
 (some 7, .assign (.const (.bool true)), none)]
theorem DS4.isL : (opsOf 4 Tryz.f6).toList.map tri = DS4.L := by kernel_rfl
theorem DS4.ini {X : DS4} (ok : DS4Ok X) : ∀ n ∈ [3], X.a0.eval (.tmp n) = X.val0 n := by
 simp only [List.forall_mem_cons]
 exact ⟨ok.e3, List.forall_mem_nil _⟩
abbrev DS4.St (X : DS4) (Q : PQ) (i : Nat) : Prop := StepG (opsOf 4 Tryz.f6) DS4.acts DS4.av X.val0 X.Wd X.a0 Q i
theorem DS4.plain (X : DS4) (ok : DS4Ok X) {Q : PQ} : ∀ i ∈ [0, 3, 8], DS4.St X Q i := by
 simp only [List.forall_mem_cons]
 refine ⟨?_, ?_, ?_, List.forall_mem_nil _⟩
 all_goals
  refine st_plain DS4.isL (DS4.ini ok) ok.sz rfl (by kernel_rfl) ?_
  intro γ w n o hW hop
  unfold execOp
  rw [hop]
  simp [envR, valG, DS4.av, DS4.val0, go_sem]
theorem DS4.soon (X : DS4) (ok : DS4Ok X) {Q : PQ} : ∀ i ∈ [1], DS4.St X Q i := by
 simp only [List.forall_mem_cons]
 refine ⟨?_, List.forall_mem_nil _⟩
 all_goals
  refine st_plainM (m := 0) DS4.isL (DS4.ini ok) ok.sz rfl (by kernel_rfl) ?_
  intro γ w n o hn hW hop
  obtain rfl : n = 0 := by omega
  have hk : w = X.W := hW
  subst hk
  unfold execOp
  rw [hop]
  simp [envR, valG, DS4.av, DS4.val0, ok.c0, go_sem]
theorem DS4.s2 (X : DS4) (ok : DS4Ok X) {Q : PQ} : DS4.St X Q 2 := by
 intro γ listed a w o hF hC hW h1 ho h2
 obtain ⟨hd, hop, hg⟩ := fieldsL DS4.isL (i := 2) rfl ho
 have e33 : a.eval (.tmp 33) = .slice (some ⟨X.g, X.off, none⟩) X.n X.pc := known hF ho h2 (DS4.ini ok) ok.sz (by kernel_rfl)
 have ef : a.eval (.func 30) = .func (.func 30) #[] #[] := rfl
 have hu := unl (hF.lt ho) h1
 refine st_actG (k := 0) DS4.chain DS4.nodup rfl hF hC hW h1 ho h2 (Or.inr ⟨34, hd, rfl⟩) (injG (by kernel_rfl) hu) hg ?_
 intro hW0 K hK
 have hw0 : w = X.W := hW0
 have hr : (execOp a.eval o).run Tryz.prog w = .ok (.enter 30 #[.slice (some ⟨X.g, X.off, none⟩) X.n X.pc]) w := by
  generalize a.eval = ρ at e33 ef ⊢
  unfold execOp
  rw [hop]
  simp [e33, ef, go_sem]
 unfold Oper.wp
 rw [hr]
 refine Calls.mono (by rw [hw0]; exact ok.hc) ?_
 rintro e w' ⟨u, rfl, h⟩
 exact hK _ _ h
theorem DS4.s4 (X : DS4) (ok : DS4Ok X) {Q : PQ} : DS4.St X Q 4 := by
 intro γ listed a w o hF hC hW h1 ho h2
 obtain ⟨hd, hop, hg⟩ := fieldsL DS4.isL (i := 4) rfl ho
 have e35 : a.eval (.tmp 35) = .pointer (some ⟨X.bl, 1, none⟩) := known hF ho h2 (DS4.ini ok) ok.sz (by kernel_rfl)
 have hph := phase_leG (acts := DS4.acts) (m := 1) (x := 5) hC (unl (hF.lt ho) h1) rfl [4] (by kernel_rfl) (by decide)
 have hWW := hW
 generalize phase listed DS4.acts = n at hph hWW
 have hk : Nw X.W w := by
  rcases (show n = 0 ∨ n = 1 by omega) with rfl | rfl
  ·have : w = X.W := hWW
   rw [this]; exact Below.refl _ _
  ·exact ok.hn _ _ hWW
 have hc := ((bcell hk).1 _ _ (World.block_lt_of_cell? X.W ⟨X.bl, 1, none⟩ ok.c1)).trans ok.c1
 refine st_pureG hF hC hW ho h2 (by decide) hd hg rfl ?_
 show _ = Result.ok (Next.value (.bool X.cl)) w
 generalize a.eval = ρ at e35 ⊢
 unfold execOp
 rw [hop]
 simp [e35, hc, go_sem]
theorem DS4.s5 (X : DS4) (ok : DS4Ok X) {Q : PQ} : DS4.St X Q 5 := by
 intro γ listed a w o hF hC hW h1 ho h2
 obtain ⟨hd, hop, hg⟩ := fieldsL DS4.isL (i := 5) rfl ho
 have e34 : a.eval (.tmp 34) = γ 0 := known hF ho h2 (DS4.ini ok) ok.sz (by kernel_rfl)
 have e36 : a.eval (.tmp 36) = .bool X.cl := known hF ho h2 (DS4.ini ok) ok.sz (by kernel_rfl)
 have hu := unl (hF.lt ho) h1
 refine st_actG (k := 1) DS4.chain DS4.nodup rfl hF hC hW h1 ho h2 (Or.inr ⟨37, hd, rfl⟩) (injG (by kernel_rfl) hu) hg ?_
 intro hW0 K hK
 have hP : X.P w (γ 0) := hW0
 obtain ⟨ua, un, uc, g0⟩ := ok.hs _ _ hP
 have hr : (execOp a.eval o).run Tryz.prog w = .ok (.value (.agg #[γ 0, .bool X.cl])) w := by
  rw [g0] at e34 ⊢
  generalize a.eval = ρ at e34 e36 ⊢
  unfold execOp
  rw [hop]
  simp [e34, e36, go_sem]
 unfold Oper.wp
 rw [hr]
 exact hK _ _ ⟨hP, rfl⟩
theorem DS4.s6 (X : DS4) (ok : DS4Ok X) {Q : PQ} : DS4.St X Q 6 := by
 intro γ listed a w o hF hC hW h1 ho h2
 obtain ⟨hd, hop, hg⟩ := fieldsL DS4.isL (i := 6) rfl ho
 have e37 : a.eval (.tmp 37) = γ 1 := known hF ho h2 (DS4.ini ok) ok.sz (by kernel_rfl)
 have hu := unl (hF.lt ho) h1
 refine st_actG (k := 2) DS4.chain DS4.nodup rfl hF hC hW h1 ho h2 (Or.inr ⟨38, hd, rfl⟩) (injG (by kernel_rfl) hu) hg ?_
 intro hW0 K hK
 obtain ⟨hP, g1⟩ := hW0
 obtain ⟨ua, un, uc, g0⟩ := ok.hs _ _ hP
 rw [g1, g0] at e37
 have hr : (execOp a.eval o).run Tryz.prog w = .ok (.value (.slice (some ⟨w.heap.size, 0, none⟩) 1 1)) (w.alloc (.cells #[γ 0, .bool X.cl] 25)) := by
  rw [g0]
  generalize a.eval = ρ at e37 ⊢
  unfold execOp
  rw [hop]
  simp [e37, go_sem]
 unfold Oper.wp
 rw [hr]
 exact hK _ _ ⟨w, hP, rfl, rfl⟩
theorem DS4.s7 (X : DS4) (ok : DS4Ok X) {Q : PQ} : DS4.St X Q 7 := by
 intro γ listed a w o hF hC hW h1 ho h2
 obtain ⟨hd, hop, hg⟩ := fieldsL DS4.isL (i := 7) rfl ho
 have e38 : a.eval (.tmp 38) = γ 2 := known hF ho h2 (DS4.ini ok) ok.sz (by kernel_rfl)
 have hu := unl (hF.lt ho) h1
 refine st_actG (k := 3) DS4.chain DS4.nodup rfl hF hC hW h1 ho h2 (Or.inr ⟨6, hd, rfl⟩) (injG (by kernel_rfl) hu) hg ?_
 intro hW0 K hK
 obtain ⟨w1, hP, g2, hw1⟩ := hW0
 rw [g2] at e38
 have hr : (execOp a.eval o).run Tryz.prog w = .ok (.value (.slice (some ⟨w1.heap.size, 0, none⟩) 1 1)) w := by
  generalize a.eval = ρ at e38 ⊢
  unfold execOp
  rw [hop]
  simp [e38, go_sem]
 unfold Oper.wp
 rw [hr]
 exact hK _ _ ⟨w1, hP, rfl, hw1⟩
theorem DS4.size : (opsOf 4 Tryz.f6).size = 9 := by kernel_rfl
theorem DS4.rest (X : DS4) (ok : DS4Ok X) {Q : PQ} : ∀ i ∈ [2, 4, 5, 6, 7], DS4.St X Q i := by
 simp only [List.forall_mem_cons]
 exact ⟨DS4.s2 X ok,
  DS4.s4 X ok,
  DS4.s5 X ok,
  DS4.s6 X ok,
  DS4.s7 X ok, List.forall_mem_nil _⟩
theorem DS4.steps (X : DS4) (ok : DS4Ok X) {Q : PQ} (i : Nat) (hi : i < (opsOf 4 Tryz.f6).size) : DS4.St X Q i := by
 rw [DS4.size] at hi
 rcases (by decide : ∀ i, i < 9 → i ∈ [0, 3, 8] ∨ i ∈ [1] ∨ i ∈ [2, 4, 5, 6, 7]) i hi with h | h | h
 · exact DS4.plain X ok i h
 · exact DS4.soon X ok i h
 · exact DS4.rest X ok i h
theorem DS4.run (X : DS4) (ok : DS4Ok X) {Q : PQ} (w : World) (h0 : X.Wd 0 (fun _ => undef) w.drew) (hend : ∀ (γ : Nat → Value) w', X.Wd 4 γ w' → Q .normal (((((((((X.a0.put (some 32) (.pointer (some ⟨X.bl, 0, none⟩))).put (some 33) (.slice (some ⟨X.g, X.off, none⟩) X.n X.pc)).put (some 34) (γ 0)).put (some 35) (.pointer (some ⟨X.bl, 1, none⟩))).put (some 36) (.bool X.cl)).put (some 37) (γ 1)).put (some 38) (γ 2)).put (some 6) (γ 3)).put (some 7) (.bool true)) w') : (Code.region 4 (opsOf 4 Tryz.f6) true).wp Tryz.prog Q X.a0 w := by
 refine reg_act (acts := DS4.acts) (av := DS4.av) (val0 := X.val0) (Wd := X.Wd) (by kernel_rfl) (by kernel_rfl) (by rw [DS4.size]; decide) (fun i hi => DS4.steps X ok i hi) _ h0 ?_
 intro γ w' h
 exact end_at (hend γ w' h) (by kernel_rfl)
structure DS16 where
 bl : Nat
 bh : Nat
 bd : Nat
 g : Nat
 off : Nat
 n : Nat
 pc : Nat
 hx : Int
 hy : Int
 x : Int
 y : Int
 P : World → Prop
 W : World
 a0 : Act
structure DS16Ok (X : DS16) : Prop where
 c0 : X.W.cell? ⟨X.bl, 0, none⟩ = some (.slice (some ⟨X.g, X.off, none⟩) X.n X.pc)
 h0 : X.W.cell? ⟨X.bh, 0, none⟩ = some (.int .i64 X.hx)
 h1 : X.W.cell? ⟨X.bh, 1, none⟩ = some (.int .i64 X.hy)
 p0 : X.W.cell? ⟨X.g, X.off, none⟩ = some (.int .i64 X.x)
 p1 : X.W.cell? ⟨X.g, X.off + 1, none⟩ = some (.int .i64 X.y)
 hn : 0 < X.n
 hc : Calls Tryz.prog 33 #[.pointer (some ⟨X.bd, 0, none⟩), .agg #[.int .i64 X.hx, .int .i64 X.hy], .agg #[.int .i64 X.x, .int .i64 X.y]] X.W fun e w' => e = .returned (.tuple #[]) ∧ X.P w'
 e3 : X.a0.eval (.tmp 3) = .pointer (some ⟨X.bl, 0, none⟩)
 e8 : X.a0.eval (.tmp 8) = .pointer (some ⟨X.bd, 0, none⟩)
 e9 : X.a0.eval (.tmp 9) = .pointer (some ⟨X.bh, 0, none⟩)
 sz : X.a0.tmps.size = 85
def DS16.val0 (X : DS16) : Nat → Value
 | 3 => .pointer (some ⟨X.bl, 0, none⟩)
 | 8 => .pointer (some ⟨X.bd, 0, none⟩)
 | 9 => .pointer (some ⟨X.bh, 0, none⟩)
 | 67 => .agg #[.int .i64 X.hx, .int .i64 X.hy]
 | 68 => .pointer (some ⟨X.bl, 0, none⟩)
 | 69 => .slice (some ⟨X.g, X.off, none⟩) X.n X.pc
 | 70 => .pointer (some ⟨X.g, X.off, none⟩)
 | 71 => .agg #[.int .i64 X.x, .int .i64 X.y]
 | _ => undef
def DS16.av : Nat → Option Nat
 | 72 => some 0
 | _ => none
def DS16.acts : List Nat := [5]
def DS16.Wd (X : DS16) : Nat → (Nat → Value) → World → Prop
  | 0, _, w => w = X.W
  | _, _, w => X.P w
theorem DS16.chain : chainG (opsOf 16 Tryz.f6) DS16.acts = true := by kernel_rfl
theorem DS16.nodup : DS16.acts.Nodup := by decide
def DS16.L : List (Option Nat × Op × Option (Nat × Bool)) := [
 (some 67, .load 34 (.tmp 9), none),
 (some 68, .fieldAddr 25 (.tmp 3) 0, none),
 (some 69, .load 23 (.tmp 68), none),
 (some 70, .indexAddr 23 (.tmp 69) (.const (.int .i64 0)), none),
 (some 71, .load 34 (.tmp 70), none),
 (some 72, .call { callee := .value (.func 33), args := #[(.tmp 8), (.tmp 67), (.tmp 71)], argTypes := #[67, 34, 34] }, none)]
theorem DS16.isL : (opsOf 16 Tryz.f6).toList.map tri = DS16.L := by kernel_rfl
theorem DS16.ini {X : DS16} (ok : DS16Ok X) : ∀ n ∈ [3, 8, 9], X.a0.eval (.tmp n) = X.val0 n := by
 simp only [List.forall_mem_cons]
 exact ⟨ok.e3, ok.e8, ok.e9, List.forall_mem_nil _⟩
abbrev DS16.St (X : DS16) (Q : PQ) (i : Nat) : Prop := StepG (opsOf 16 Tryz.f6) DS16.acts DS16.av X.val0 X.Wd X.a0 Q i
theorem DS16.plain (X : DS16) (ok : DS16Ok X) {Q : PQ} : ∀ i ∈ [1, 3], DS16.St X Q i := by
 simp only [List.forall_mem_cons]
 refine ⟨?_, ?_, List.forall_mem_nil _⟩
 all_goals
  refine st_plain DS16.isL (DS16.ini ok) ok.sz rfl (by kernel_rfl) ?_
  intro γ w n o hW hop
  unfold execOp
  rw [hop]
  simp [envR, valG, DS16.av, DS16.val0, ok.hn, go_sem]
theorem DS16.soon (X : DS16) (ok : DS16Ok X) {Q : PQ} : ∀ i ∈ [0, 2, 4], DS16.St X Q i := by
 simp only [List.forall_mem_cons]
 refine ⟨?_, ?_, ?_, List.forall_mem_nil _⟩
 all_goals
  refine st_plainM (m := 0) DS16.isL (DS16.ini ok) ok.sz rfl (by kernel_rfl) ?_
  intro γ w n o hn hW hop
  obtain rfl : n = 0 := by omega
  have hk : w = X.W := hW
  subst hk
  unfold execOp
  rw [hop]
  simp [envR, valG, DS16.av, DS16.val0, ok.h0, ok.h1, ok.c0, ok.p0, ok.p1, go_sem]
theorem DS16.s5 (X : DS16) (ok : DS16Ok X) {Q : PQ} : DS16.St X Q 5 := by
 intro γ listed a w o hF hC hW h1 ho h2
 obtain ⟨hd, hop, hg⟩ := fieldsL DS16.isL (i := 5) rfl ho
 have e8 : a.eval (.tmp 8) = .pointer (some ⟨X.bd, 0, none⟩) := known hF ho h2 (DS16.ini ok) ok.sz (by kernel_rfl)
 have e67 : a.eval (.tmp 67) = .agg #[.int .i64 X.hx, .int .i64 X.hy] := known hF ho h2 (DS16.ini ok) ok.sz (by kernel_rfl)
 have e71 : a.eval (.tmp 71) = .agg #[.int .i64 X.x, .int .i64 X.y] := known hF ho h2 (DS16.ini ok) ok.sz (by kernel_rfl)
 have ef : a.eval (.func 33) = .func (.func 33) #[] #[] := rfl
 have hu := unl (hF.lt ho) h1
 refine st_actG (k := 0) DS16.chain DS16.nodup rfl hF hC hW h1 ho h2 (Or.inr ⟨72, hd, rfl⟩) (injG (by kernel_rfl) hu) hg ?_
 intro hW0 K hK
 have hw0 : w = X.W := hW0
 have hr : (execOp a.eval o).run Tryz.prog w = .ok (.enter 33 #[.pointer (some ⟨X.bd, 0, none⟩), .agg #[.int .i64 X.hx, .int .i64 X.hy], .agg #[.int .i64 X.x, .int .i64 X.y]]) w := by
  generalize a.eval = ρ at e8 e67 e71 ef ⊢
  unfold execOp
  rw [hop]
  simp [e8, e67, e71, ef, go_sem]
 unfold Oper.wp
 rw [hr]
 refine Calls.mono (by rw [hw0]; exact ok.hc) ?_
 rintro e w' ⟨rfl, h⟩
 exact hK _ _ h
theorem DS16.size : (opsOf 16 Tryz.f6).size = 6 := by kernel_rfl
theorem DS16.rest (X : DS16) (ok : DS16Ok X) {Q : PQ} : ∀ i ∈ [5], DS16.St X Q i := by
 simp only [List.forall_mem_cons]
 exact ⟨DS16.s5 X ok, List.forall_mem_nil _⟩
theorem DS16.steps (X : DS16) (ok : DS16Ok X) {Q : PQ} (i : Nat) (hi : i < (opsOf 16 Tryz.f6).size) : DS16.St X Q i := by
 rw [DS16.size] at hi
 rcases (by decide : ∀ i, i < 6 → i ∈ [1, 3] ∨ i ∈ [0, 2, 4] ∨ i ∈ [5]) i hi with h | h | h
 · exact DS16.plain X ok i h
 · exact DS16.soon X ok i h
 · exact DS16.rest X ok i h
theorem DS16.run (X : DS16) (ok : DS16Ok X) {Q : PQ} (w : World) (h0 : X.Wd 0 (fun _ => undef) w.drew) (hend : ∀ (γ : Nat → Value) w', X.Wd 1 γ w' → Q .normal ((((((X.a0.put (some 67) (.agg #[.int .i64 X.hx, .int .i64 X.hy])).put (some 68) (.pointer (some ⟨X.bl, 0, none⟩))).put (some 69) (.slice (some ⟨X.g, X.off, none⟩) X.n X.pc)).put (some 70) (.pointer (some ⟨X.g, X.off, none⟩))).put (some 71) (.agg #[.int .i64 X.x, .int .i64 X.y])).put (some 72) (γ 0)) w') : (Code.region 16 (opsOf 16 Tryz.f6) true).wp Tryz.prog Q X.a0 w := by
 refine reg_act (acts := DS16.acts) (av := DS16.av) (val0 := X.val0) (Wd := X.Wd) (by kernel_rfl) (by kernel_rfl) (by rw [DS16.size]; decide) (fun i hi => DS16.steps X ok i hi) _ h0 ?_
 intro γ w' h
 exact end_at (hend γ w' h) (by kernel_rfl)
end Go.Proofs.YtfdjjbgcaojcnaaGreat
