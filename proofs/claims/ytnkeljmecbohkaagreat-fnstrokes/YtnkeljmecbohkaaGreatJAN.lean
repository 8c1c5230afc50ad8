/-
  A dashing's sum and skip, by the program; each theorem names
-/
import Derived.Test.YtnkeljmecbohkaaGreatJAM
import Derived.Deep.DeepCutAuto
import Derived.Test.YtnkeljmecbohkaaGreatJAD
import Derived.Test.YtnkeljmecbohkaaGreatJAF
import Derived.Test.YtnkeljmecbohkaaGreatJAE
import Derived.Test.YtnkeljmecbohkaaGreatJAL
import Derived.Test.YtnkeljmecbohkaaGreatJAA
import Derived.Test.YtnkeljmecbohkaaGreatJAB
namespace Go.Proofs.YtnkeljmecbohkaaGreat
open Go.ChangeShapes Go.WideShapes Go.ChangeAt Go.RowKit
set_option linter.unusedVariables false
def sumN (ns : List Int) : Nat → Int
 | 0 => 0
 | k + 1 => sumN ns k + intAt ns k
def sumR (ns : List Int) : Nat → Int
 | 0 => 0
 | k + 1 => sumR ns k + intAt ns (k % ns.length)
theorem sumN_bd {ns : List Int} (h : ∀ i, i < ns.length → 0 ≤ intAt ns i ∧ intAt ns i ≤ 67108864) : ∀ k, k ≤ ns.length → 0 ≤ sumN ns k ∧ sumN ns k ≤ 67108864 * k
 | 0, _ => ⟨by simp [sumN], by simp [sumN]⟩
 | k + 1, hk => by
  obtain ⟨h1, h2⟩ := sumN_bd h k (by omega)
  obtain ⟨h3, h4⟩ := h k (by omega)
  show 0 ≤ sumN ns k + intAt ns k ∧ sumN ns k + intAt ns k ≤ _
  omega
theorem sumR_N {ns : List Int} : ∀ k, k ≤ ns.length → sumR ns k = sumN ns k
 | 0, _ => rfl
 | k + 1, hk => by
  show sumR ns k + intAt ns (k % ns.length) = sumN ns k + intAt ns k
  rw [sumR_N k (by omega), Nat.mod_eq_of_lt (by omega)]
theorem sumR_more (ns : List Int) : ∀ j, sumR ns (ns.length + j) = sumR ns ns.length + sumR ns j
 | 0 => by simp [sumR]
 | j + 1 => by
  show sumR ns (ns.length + j) + intAt ns ((ns.length + j) % ns.length) = sumR ns ns.length + (sumR ns j + intAt ns (j % ns.length))
  rw [sumR_more ns j, Nat.add_mod_left]
  omega
theorem sumR_step {ns : List Int} (h : NB ns) (k : Nat) : sumR ns k ≤ sumR ns (k + 1) ∧ sumR ns (k + 1) ≤ sumR ns k + 67108864 := by
 obtain ⟨h1, h2⟩ := h.2 _ (Nat.mod_lt k h.1)
 show sumR ns k ≤ sumR ns k + intAt ns (k % ns.length) ∧ sumR ns k + intAt ns (k % ns.length) ≤ _
 omega
theorem sumR_mono {ns : List Int} (h : NB ns) (a : Nat) : ∀ j, sumR ns a ≤ sumR ns (a + j)
 | 0 => Int.le_refl _
 | j + 1 => Int.le_trans (sumR_mono h a j) (sumR_step h (a + j)).1
theorem sumR_lt {ns : List Int} (h : NB ns) {a b : Nat} {f : Int} (h1 : sumR ns a ≤ f) (h2 : f < sumR ns b) : a < b := by
 rcases Nat.lt_or_ge a b with h3 | h3
 ·exact h3
 ·have := sumR_mono h b (a - b)
  rw [show b + (a - b) = a by omega] at this
  omega
theorem sumR_nn {ns : List Int} (h : NB ns) (k : Nat) : 0 ≤ sumR ns k := by
 have := sumR_mono h 0 k
 simpa [sumR] using this
set_option maxHeartbeats 1000000 in
theorem isum (w : World) (a : Option Addr) (c : Nat) (ns : List Int) (hl : ns.length ≤ 8) (hb : ∀ i, i < ns.length → 0 ≤ intAt ns i ∧ intAt ns i ≤ 67108864) (hr : Ints w a ns) :
  Calls Tryz.prog 29 #[.slice a ns.length c] w fun e w' => e = .returned (.int .i64 (sumN ns ns.length)) ∧ w' = w := by
 have HR : Hid (Ints w a ns) := hr
 have HB : Hid _ := hb
 clear hr hb
 obtain ⟨n, hn⟩ : ∃ n, ns.length = n := ⟨_, rfl⟩
 have HN : Hid (ns.length = n) := hn
 rw [hn] at hl ⊢
 clear hn
 go_enter Tryz.func29, Tryz.ntmps29
 go_wp2
 go_loop [3, 8] (fun s i => ∃ k : Nat, k ≤ n ∧ i = .int .i64 (k : Int) ∧ s = .int .i64 (sumN ns k)) (fun _ i => n - (intOf i).toNat)
 case atStart => exact ⟨0, Nat.zero_le _, rfl, rfl⟩
 case round =>
  obtain ⟨k, hk, rfl, rfl⟩ := hrel
  by_cases hlt : k < n
  ·rcases HR.out with h | ⟨b, off, rfl, hbb, hc⟩
   ·have := HN.out; rw [h] at this; simp at this; omega
   have q := hc k (by rw [HN.out]; exact hlt)
   obtain ⟨b1, b2⟩ := sumN_bd HB.out k (by rw [HN.out]; exact hk)
   obtain ⟨b3, b4⟩ := HB.out k (by rw [HN.out]; exact hlt)
   have HS : Hid (sumN ns (k + 1) = sumN ns k + intAt ns k) := rfl
   clear hc
   generalize intAt ns k = x at *
   generalize hs : sumN ns k = s at *
   clear hs
   have hw : IntKind.i64.wrap (s + x) = s + x := IntWalk.i64_in _ ⟨by omega, by omega⟩
   go_wp2
   go_round
   case rel => exact ⟨k + 1, by omega, by go_num, by rw [HS.out]⟩
   case measure => simp [intOf]; omega
  ·have hkn : k = n := by omega
   subst hkn
   go_wp2
   go_ret
   exact ⟨rfl, rfl⟩
def rndN (ns : List Int) : Int := if ns.length % 2 = 1 then sumN ns ns.length * 2 else sumN ns ns.length
def rndL (ns : List Int) : Nat := if ns.length % 2 = 1 then ns.length + ns.length else ns.length
theorem rnd_is (ns : List Int) : sumR ns (rndL ns) = rndN ns := by
 unfold rndL rndN
 split
 ·rw [sumR_more, sumR_N _ (Nat.le_refl _)]; omega
 ·exact sumR_N _ (Nat.le_refl _)
def skK (ns : List Int) (f0 : Int) : Nat → Nat → Nat
 | 0, k => k
 | f + 1, k => if sumR ns (k + 1) ≤ f0 then skK ns f0 f (k + 1) else k
def startD (ns : List Int) (f0 : Int) : Dg := ⟨skK ns f0 17 0, sumR ns (skK ns f0 17 0 + 1) - f0, 0, [], []⟩
theorem skK_is {ns : List Int} (h : NB ns) (f0 : Int) : ∀ f k, sumR ns k ≤ f0 → f0 < sumR ns (k + f) → sumR ns (skK ns f0 f k) ≤ f0 ∧ f0 < sumR ns (skK ns f0 f k + 1)
 | 0, k, h1, h2 => absurd h2 (by rw [Nat.add_zero]; omega)
 | f + 1, k, h1, h2 => by
  by_cases hc : sumR ns (k + 1) ≤ f0
  ·rw [skK, if_pos hc]
   exact skK_is h f0 f (k + 1) hc (by rw [show k + 1 + f = k + (f + 1) by omega]; exact h2)
  ·rw [skK, if_neg hc]
   exact ⟨h1, by omega⟩
theorem start_DB {ns : List Int} (h : NB ns) (hl : ns.length ≤ 8) {f0 : Int} (h0 : 0 ≤ f0) (h1 : f0 < rndN ns) : DB 0 (startD ns f0) := by
 have hrl : rndL ns ≤ 16 := by unfold rndL; split <;> omega
 have hri := rnd_is ns
 have h17 : f0 < sumR ns (0 + 17) := by
  have := sumR_mono h (rndL ns) (17 - rndL ns)
  rw [show rndL ns + (17 - rndL ns) = 17 by omega, hri] at this
  rw [Nat.zero_add]
  omega
 obtain ⟨a1, a2⟩ := skK_is h f0 17 0 (by simpa [sumR] using h0) h17
 have a3 := sumR_lt h a1 (by rw [hri]; exact h1)
 have a4 := sumR_step h (skK ns f0 17 0)
 exact ⟨by show skK ns f0 17 0 ≤ 0 + 16; omega, Nat.le_refl _, Nat.le_refl _, by show 0 ≤ sumR ns (skK ns f0 17 0 + 1) - f0; omega, by show sumR ns (skK ns f0 17 0 + 1) - f0 ≤ _; omega, Nat.zero_le _, by show manyL [] + 0 ≤ _; simp [manyL]⟩
theorem DB.reach {c : Nat} {d : Dg} (h : DB c d) (q : Pnt) : DB (c + 1) (reachD d q) := by
 obtain ⟨b1, b2, b3, b4, b5⟩ := rD_bd d q
 exact ⟨by rw [b3, b4]; exact h.ha, by have := h.hp; omega, by rw [b2, b4]; exact h.ho, by rw [b5]; exact h.h0, by rw [b5]; exact h.h1, by rw [b4]; have := h.hb; omega, by rw [b2, b4]; have := h.hm; omega⟩
set_option maxRecDepth 100000 in
set_option maxHeartbeats 4000000 in
theorem iskip (w0 w : World) (bx : Nat) (K : List (Nat × Int × Int)) (na : Option Addr) (nc : Nat) (ns : List Int) (f : Int) (hb0 : w0.heap.size ≤ bx) (hl : ns.length ≤ 8) (hns : NB ns) (hpos : 0 < sumN ns ns.length) (hf0 : 0 ≤ f) (hf1 : f ≤ 67108864) (hI : Ints w0 na ns) (h : DhS bx w0 w K na nc ns ⟨0, intAt ns 0, 0, [], []⟩) :
  Calls Tryz.prog 31 #[.pointer (some ⟨bx, 0, none⟩), .int .i64 f] w fun e w' => e = .returned (.tuple #[]) ∧ DhS bx w0 w' K na nc ns (startD ns (f % rndN ns)) := by
 obtain ⟨s1, s2⟩ := sumN_bd hns.2 ns.length (Nat.le_refl _)
 have hrp : 0 < rndN ns ∧ rndN ns ≤ 67108864 * 16 := by unfold rndN; split <;> omega
 have hrl : rndL ns ≤ 16 := by unfold rndL; split <;> omega
 have hri := rnd_is ns
 obtain ⟨v, it, u, dh, o0, n0, k0⟩ := h
 have c0 := dh.c0
 have H0 : Hid (DhS bx w0 w K na nc ns ⟨0, intAt ns 0, 0, [], []⟩) := ⟨v, it, u, dh, o0, n0, k0⟩
 have HSU : Hid _ := isum w na nc ns hl hns.2 (Ints.nw hI n0)
 have HI : Hid (Ints w0 na ns) := hI
 have HNB : Hid (NB ns) := hns
 have HRN : Hid (rndN ns = if ns.length % 2 = 1 then sumN ns ns.length * 2 else sumN ns ns.length) := rfl
 have htm : ((ns.length : Int)).tmod 2 = ((ns.length % 2 : Nat) : Int) := by
  rw [Int.tmod_eq_emod_of_nonneg (by omega)]
  first | exact (Int.natCast_emod _ _).symm | rfl
 obtain ⟨f0, hf⟩ : ∃ f0, f % rndN ns = f0 := ⟨_, rfl⟩
 have hfa : 0 ≤ f0 := by rw [← hf]; exact Int.emod_nonneg _ (by omega)
 have hfb : f0 < rndN ns := by rw [← hf]; exact Int.emod_lt_of_pos _ hrp.1
 have hft : f.tmod (rndN ns) = f0 := by rw [Int.tmod_eq_emod_of_nonneg hf0]; exact hf
 rw [hf]
 have HLT : Hid (∀ k, sumR ns k ≤ f0 → k < 16) := fun k hk => by
  have := sumR_lt hns hk (by rw [hri]; exact hfb)
  omega
 have HST : Hid (startD ns f0 = ⟨skK ns f0 17 0, sumR ns (skK ns f0 17 0 + 1) - f0, 0, [], []⟩) := rfl
 generalize hsn : sumN ns ns.length = sn at *
 generalize hr : rndN ns = r at *
 clear dh o0 n0 k0 hI hns hri hf hsn hr
 obtain ⟨n, hn⟩ : ∃ n, ns.length = n := ⟨_, rfl⟩
 have HN : Hid (ns.length = n) := hn
 rw [hn] at c0 HSU HRN hl htm s2
 clear hn
 go_enter Tryz.func31, Tryz.ntmps31
 go_wp2_with fail
 refine Calls.mono HSU.out ?_
 rintro e w1 ⟨rfl, rfl⟩
 have hrem : n % 2 < 2 := Nat.mod_lt _ (by omega)
 go_upto_if 16 with fail
 go_cut [4] (fun rr wx => rr = .int .i64 r ∧ w1 = wx)
 case first =>
  by_cases hodd : n % 2 = 1
  ·have hr2 : r = sn * 2 := by rw [HRN.out, if_pos hodd]
   have hd : ((n : Int).tmod 2 == 1) = true := by rw [htm, hodd]; rfl
   have hw : IntKind.i64.wrap (sn * 2) = sn * 2 := IntWalk.i64_in _ ⟨by omega, by omega⟩
   go_wp2
   go_meet
   exact ⟨by rw [hr2], rfl⟩
  ·have hr2 : r = sn := by rw [HRN.out, if_neg hodd]
   have hz : n % 2 = 0 := by omega
   have hd : ((n : Int).tmod 2 == 1) = false := by rw [htm, hz]; rfl
   go_wp2
   go_meet
   exact ⟨by rw [hr2], rfl⟩
 case rest =>
  obtain ⟨rfl, hwc⟩ := hcut
  subst hwc
  have hr0 : ¬ r = 0 := by omega
  clear htm hrem c0 HRN
  go_wp2
  go_loopw [1] (fun fr wr => ∃ k : Nat, fr = .int .i64 (f0 - sumR ns k) ∧ sumR ns k ≤ f0 ∧ skK ns f0 (17 - k) k = skK ns f0 17 0 ∧ DhS bx w0 wr K na nc ns ⟨k, intAt ns (k % ns.length), 0, [], []⟩) (fun _ wr => 100 - (intOf ((wr.cell? ⟨bx, 1, none⟩).getD undef)).toNat)
  case atStart => exact ⟨0, by simp [sumR], by simpa [sumR] using hfa, rfl, by rw [Nat.zero_mod]; exact H0.out⟩
  case round =>
   obtain ⟨k, rfl, hk1, hk2, hk3⟩ := hrel
   have HK2 : Hid (skK ns f0 (17 - k) k = skK ns f0 17 0) := hk2
   have HK3 : Hid (DhS bx w0 wr K na nc ns ⟨k, intAt ns (k % ns.length), 0, [], []⟩) := hk3
   have hk16 := HLT.out k hk1
   obtain ⟨v, it, u, dh, _, _, _⟩ := hk3
   have c1 := dh.c1
   have c2 := dh.c2
   have fr := dh.free
   simp only at c1 c2
   have HSS : Hid (sumR ns (k + 1) = sumR ns k + intAt ns (k % ns.length)) := rfl
   obtain ⟨x1, x2⟩ := HNB.out.2 _ (Nat.mod_lt k HNB.out.1)
   have hsn := sumR_nn HNB.out k
   have HKK : Hid (skK ns f0 (17 - k) k = if sumR ns (k + 1) ≤ f0 then skK ns f0 (16 - k) (k + 1) else k) := by
    show _ = _
    rw [show 17 - k = (16 - k) + 1 by omega]
    rfl
   clear dh hk2
   generalize hx : intAt ns (k % ns.length) = x at *
   generalize hs : sumR ns k = s at *
   have HX : Hid (intAt ns (k % ns.length) = x) := hx
   have HS : Hid (sumR ns k = s) := hs
   clear hx hs
   have hw1 : IntKind.i64.wrap (f0 - s - x) = f0 - s - x := IntWalk.i64_in _ ⟨by omega, by omega⟩
   have hw2 : IntKind.i64.wrap (x - (f0 - s)) = x - (f0 - s) := IntWalk.i64_in _ ⟨by omega, by omega⟩
   by_cases hle : x ≤ f0 - s
   ·have dl : decide (x ≤ f0 - s) = true := decide_eq_true hle
    have H1 : Hid (sumR ns (k + 1) ≤ f0) := by show _ ≤ _; rw [HSS.out]; omega
    have HKN : Hid (skK ns f0 (17 - (k + 1)) (k + 1) = skK ns f0 17 0) := by
     show _ = _
     rw [← HK2.out, HKK.out, if_pos H1.out, show 17 - (k + 1) = 16 - k by omega]
    clear c1
    go_wp2_with fail
    refine Calls.mono (inext w0 wr bx _ na nc ns ⟨k, x, 0, [], []⟩ hb0 HNB.out.1 (by show k ≤ _; omega) HI.out HK3.out) ?_
    rintro e w4 ⟨rfl, h4⟩
    have H4 : Hid (DhS bx w0 w4 K na nc ns ⟨k + 1, intAt ns ((k + 1) % ns.length), 0, [], []⟩) := h4
    obtain ⟨v4, it4, u4, dh4, _, _, _⟩ := h4
    have c14 := dh4.c1
    obtain ⟨v3, it3, u3, dh3, _, _, _⟩ := HK3.out
    have c13 := dh3.c1
    have hk17 := HLT.out (k + 1) H1.out
    simp only [nextD, Int.natCast_add, Int.cast_ofNat_Int] at c14 c13
    clear dh4 dh3 c2 fr
    go_wp2
    go_roundw
    case rel => exact ⟨k + 1, by rw [HSS.out]; congr 1; omega, H1.out, HKN.out, H4.out⟩
    case measure => rw [c14, c13]; simp [intOf]; omega
   ·have dl : decide (x ≤ f0 - s) = false := decide_eq_false hle
    have H1 : Hid (¬ sumR ns (k + 1) ≤ f0) := by show ¬ _; rw [HSS.out]; omega
    have HKN : Hid (skK ns f0 17 0 = k) := by show _ = _; rw [← HK2.out, HKK.out, if_neg H1.out]
    have H5 : Hid (DhS bx w0 (wr.setCell ⟨bx, 2, none⟩ (.int .i64 (x - (f0 - s)))) K na nc ns ⟨k, sumR ns (k + 1) - f0, 0, [], []⟩) := by
     obtain ⟨v, it, u, dh, o1, n1, k1⟩ := HK3.out
     obtain ⟨s1, s2⟩ := DH.setL dh (x - (f0 - s))
     exact DhS.of s1 o1 (Below.trans n1 (Below.mono s2 hb0)) rfl (by show _ = sumR ns (k + 1) - f0; rw [HSS.out]; omega) rfl rfl (Kb.set k1 2 _)
    clear c1
    go_wp2
    go_end0
    refine ⟨rfl, ?_⟩
    rw [HST.out, HKN.out]
    exact H5.out
set_option maxRecDepth 100000 in
set_option maxHeartbeats 2000000 in
theorem iclone (w : World) (g off c : Nat) (p : List Pnt) (h0 : 0 < p.length) (h1 : p.length ≤ 100000) (hr : LieP w g off p) :
  Calls Tryz.prog 30 #[.slice (some ⟨g, off, none⟩) p.length c] w fun e w' => ∃ u, e = .returned u ∧ OwnP w' w.heap.size u p ∧ Nw w w' := by
 have n1 : Nw w (w.alloc (.cells #[] 34)) := (Below.refl _ _).alloc (Nat.le_refl _) _
 have HO : Hid (OwnQ 34 (w.alloc (.cells #[] 34)) w.heap.size (.slice (some ⟨w.heap.size, 0, none⟩) 0 0) []) := World.ownsRow_lit w #[] 0 (Nat.le_refl _) (by unfold maxLen; omega) (by simp)
 have HI : Hid _ := (LieP.nw hr n1).vv
 have HN : Hid (0 < p.length ∧ p.length ≤ 100000) := ⟨h0, h1⟩
 have NW : Hid (Nw w (w.alloc (.cells #[] 34))) := n1
 clear hr n1
 obtain ⟨n, hn⟩ : ∃ n, p.length = n := ⟨_, rfl⟩
 have HL : Hid (p.length = n) := hn
 rw [hn] at h0 h1 ⊢
 clear hn
 have hnil := fun (w : World) (a : Option Addr) (n c : Nat) => Lib.run_eql_slice_nil (P := Tryz.prog) w 23 34 a n c 0 0 under_pts
 go_enter Tryz.func30, Tryz.ntmps30
 go_wp2_with (at_builtin; (refine wpl_q 34 23 23 (.int .i64 0) (.int .i64 0) 16 under_pts under_pts Tryz.info34 (by decide) rfl (w.alloc (.cells #[] 34)) (.tmp 5) (.tmp 6) rfl w.heap.size (.slice (some ⟨w.heap.size, 0, none⟩) 0 0) [] (vP p) rfl HO.out g off n c (by rw [vP_len]; exact HL.out.symm) rfl HI.out (vP_one p) (by rw [vP_len]; exact HN.out.1) ?cl (by simp) rfl ?_))
 case cl => rw [vP_len]; have := HN.out; simp; omega
 intro g' c' w1 h2 h3
 have H2 : Hid (OwnP w1 w.heap.size (.slice (some ⟨g', 0, none⟩) n c') p) := by
  show OwnQ _ _ _ _ _
  simpa using h2
 have N2 : Hid (Nw w w1) := Below.trans NW.out (Ext.below h3 (fun g e => (OwnQ.lt HO.out g e).1) (by simp))
 clear h2 h3
 go_wp2
 go_ret
 exact ⟨_, rfl, by simpa [Nat.zero_add] using H2.out, N2.out⟩
set_option linter.unusedSimpArgs false
structure DS4 where
 bl : Nat
 g : Nat
 off : Nat
 n : Nat
 pc : Nat
 cl : Bool
 P : World → Value → Prop
 W : World
 a0 : Act
structure DS4Ok (X : DS4) : Prop where
 c0 : X.W.cell? ⟨X.bl, 0, none⟩ = some (.slice (some ⟨X.g, X.off, none⟩) X.n X.pc)
 c1 : X.W.cell? ⟨X.bl, 1, none⟩ = some (.bool X.cl)
 hc : Calls Tryz.prog 30 #[.slice (some ⟨X.g, X.off, none⟩) X.n X.pc] X.W fun e w' => ∃ u, e = .returned u ∧ X.P w' u
 hn : ∀ w u, X.P w u → Nw X.W w
 hs : ∀ w u, X.P w u → ∃ a n c, u = .slice a n c
 e3 : X.a0.eval (.tmp 3) = .pointer (some ⟨X.bl, 0, none⟩)
 sz : X.a0.tmps.size = 85
def DS4.val0 (X : DS4) : Nat → Value
 | 3 => .pointer (some ⟨X.bl, 0, none⟩)
 | 7 => .bool true
 | 32 => .pointer (some ⟨X.bl, 0, none⟩)
 | 33 => .slice (some ⟨X.g, X.off, none⟩) X.n X.pc
 | 35 => .pointer (some ⟨X.bl, 1, none⟩)
 | 36 => .bool X.cl
 | _ => undef
def DS4.av : Nat → Option Nat
 | 34 => some 0
 | 37 => some 1
 | 38 => some 2
 | 6 => some 3
 | _ => none
def DS4.acts : List Nat := [2, 5, 6, 7]
def DS4.Wd (X : DS4) : Nat → (Nat → Value) → World → Prop
  | 0, _, w => w = X.W
  | 1, γ, w => X.P w (γ 0)
  | 2, γ, w => X.P w (γ 0) ∧ γ 1 = .agg #[γ 0, .bool X.cl]
  | 3, γ, w => ∃ w1, X.P w1 (γ 0) ∧ γ 2 = .slice (some ⟨w1.heap.size, 0, none⟩) 1 1 ∧ w = w1.alloc (.cells #[γ 0, .bool X.cl] 25)
  | _, γ, w => ∃ w1, X.P w1 (γ 0) ∧ γ 3 = .slice (some ⟨w1.heap.size, 0, none⟩) 1 1 ∧ w = w1.alloc (.cells #[γ 0, .bool X.cl] 25)
theorem DS4.chain : chainG (opsOf 4 Tryz.f6) DS4.acts = true := by kernel_rfl
theorem DS4.nodup : DS4.acts.Nodup := by decide
def DS4.L : List (Option Nat × Op × Option (Nat × Bool)) := [
 (some 32, .fieldAddr 25 (.tmp 3) 0, none),
 (some 33, .load 23 (.tmp 32), none),
 (some 34, .call { callee := .value (.func 30), args := #[(.tmp 33)], argTypes := #[23] }, none),
 (some 35, .fieldAddr 25 (.tmp 3) 1, none),
 (some 36, .load 4 (.tmp 35), none),
 (some 37, .build 25 #[(0, (.tmp 34)), (1, (.tmp 36))], none),
 (some 38, .buildSlice 29 1 #[(0, (.tmp 37))], none),
 (some 6, .assign (.tmp 38), none),
 (some 7, .assign (.const (.bool true)), none)]
theorem DS4.isL : (opsOf 4 Tryz.f6).toList.map tri = DS4.L := by kernel_rfl
theorem DS4.ini {X : DS4} (ok : DS4Ok X) : ∀ n ∈ [3], X.a0.eval (.tmp n) = X.val0 n := by
 simp only [List.forall_mem_cons]
 exact ⟨ok.e3, List.forall_mem_nil _⟩
abbrev DS4.St (X : DS4) (Q : PQ) (i : Nat) : Prop := StepG (opsOf 4 Tryz.f6) DS4.acts DS4.av X.val0 X.Wd X.a0 Q i
theorem DS4.plain (X : DS4) (ok : DS4Ok X) {Q : PQ} : ∀ i ∈ [0, 3, 8], DS4.St X Q i := by
 simp only [List.forall_mem_cons]
 refine ⟨?_, ?_, ?_, List.forall_mem_nil _⟩
 all_goals
  refine st_plain DS4.isL (DS4.ini ok) ok.sz rfl (by kernel_rfl) ?_
  intro γ w n o hW hop
  unfold execOp
  rw [hop]
  simp [envR, valG, DS4.av, DS4.val0, go_sem]
theorem DS4.soon (X : DS4) (ok : DS4Ok X) {Q : PQ} : ∀ i ∈ [1], DS4.St X Q i := by
 simp only [List.forall_mem_cons]
 refine ⟨?_, List.forall_mem_nil _⟩
 all_goals
  refine st_plainM (m := 0) DS4.isL (DS4.ini ok) ok.sz rfl (by kernel_rfl) ?_
  intro γ w n o hn hW hop
  obtain rfl : n = 0 := by omega
  have hk : w = X.W := hW
  subst hk
  unfold execOp
  rw [hop]
  simp [envR, valG, DS4.av, DS4.val0, ok.c0, go_sem]
theorem DS4.s2 (X : DS4) (ok : DS4Ok X) {Q : PQ} : DS4.St X Q 2 := by
 intro γ listed a w o hF hC hW h1 ho h2
 obtain ⟨hd, hop, hg⟩ := fieldsL DS4.isL (i := 2) rfl ho
 have e33 : a.eval (.tmp 33) = .slice (some ⟨X.g, X.off, none⟩) X.n X.pc := known hF ho h2 (DS4.ini ok) ok.sz (by kernel_rfl)
 have ef : a.eval (.func 30) = .func (.func 30) #[] #[] := rfl
 have hu := unl (hF.lt ho) h1
 refine st_actG (k := 0) DS4.chain DS4.nodup rfl hF hC hW h1 ho h2 (Or.inr ⟨34, hd, rfl⟩) (injG (by kernel_rfl) hu) hg ?_
 intro hW0 K hK
 have hw0 : w = X.W := hW0
 have hr : (execOp a.eval o).run Tryz.prog w = .ok (.enter 30 #[.slice (some ⟨X.g, X.off, none⟩) X.n X.pc]) w := by
  generalize a.eval = ρ at e33 ef ⊢
  unfold execOp
  rw [hop]
  simp [e33, ef, go_sem]
 unfold Oper.wp
 rw [hr]
 refine Calls.mono (by rw [hw0]; exact ok.hc) ?_
 rintro e w' ⟨u, rfl, h⟩
 exact hK _ _ h
theorem DS4.s4 (X : DS4) (ok : DS4Ok X) {Q : PQ} : DS4.St X Q 4 := by
 intro γ listed a w o hF hC hW h1 ho h2
 obtain ⟨hd, hop, hg⟩ := fieldsL DS4.isL (i := 4) rfl ho
 have e35 : a.eval (.tmp 35) = .pointer (some ⟨X.bl, 1, none⟩) := known hF ho h2 (DS4.ini ok) ok.sz (by kernel_rfl)
 have hph := phase_leG (acts := DS4.acts) (m := 1) (x := 5) hC (unl (hF.lt ho) h1) rfl [4] (by kernel_rfl) (by decide)
 have hWW := hW
 generalize phase listed DS4.acts = n at hph hWW
 have hk : Nw X.W w := by
  rcases (show n = 0 ∨ n = 1 by omega) with rfl | rfl
  ·have : w = X.W := hWW
   rw [this]; exact Below.refl _ _
  ·exact ok.hn _ _ hWW
 have hc := ((bcell hk).1 _ _ (World.block_lt_of_cell? X.W ⟨X.bl, 1, none⟩ ok.c1)).trans ok.c1
 refine st_pureG hF hC hW ho h2 (by decide) hd hg rfl ?_
 show _ = Result.ok (Next.value (.bool X.cl)) w
 generalize a.eval = ρ at e35 ⊢
 unfold execOp
 rw [hop]
 simp [e35, hc, go_sem]
theorem DS4.s5 (X : DS4) (ok : DS4Ok X) {Q : PQ} : DS4.St X Q 5 := by
 intro γ listed a w o hF hC hW h1 ho h2
 obtain ⟨hd, hop, hg⟩ := fieldsL DS4.isL (i := 5) rfl ho
 have e34 : a.eval (.tmp 34) = γ 0 := known hF ho h2 (DS4.ini ok) ok.sz (by kernel_rfl)
 have e36 : a.eval (.tmp 36) = .bool X.cl := known hF ho h2 (DS4.ini ok) ok.sz (by kernel_rfl)
 have hu := unl (hF.lt ho) h1
 refine st_actG (k := 1) DS4.chain DS4.nodup rfl hF hC hW h1 ho h2 (Or.inr ⟨37, hd, rfl⟩) (injG (by kernel_rfl) hu) hg ?_
 intro hW0 K hK
 have hP : X.P w (γ 0) := hW0
 obtain ⟨ua, un, uc, g0⟩ := ok.hs _ _ hP
 have hr : (execOp a.eval o).run Tryz.prog w = .ok (.value (.agg #[γ 0, .bool X.cl])) w := by
  rw [g0] at e34 ⊢
  generalize a.eval = ρ at e34 e36 ⊢
  unfold execOp
  rw [hop]
  simp [e34, e36, go_sem]
 unfold Oper.wp
 rw [hr]
 exact hK _ _ ⟨hP, rfl⟩
theorem DS4.s6 (X : DS4) (ok : DS4Ok X) {Q : PQ} : DS4.St X Q 6 := by
 intro γ listed a w o hF hC hW h1 ho h2
 obtain ⟨hd, hop, hg⟩ := fieldsL DS4.isL (i := 6) rfl ho
 have e37 : a.eval (.tmp 37) = γ 1 := known hF ho h2 (DS4.ini ok) ok.sz (by kernel_rfl)
 have hu := unl (hF.lt ho) h1
 refine st_actG (k := 2) DS4.chain DS4.nodup rfl hF hC hW h1 ho h2 (Or.inr ⟨38, hd, rfl⟩) (injG (by kernel_rfl) hu) hg ?_
 intro hW0 K hK
 obtain ⟨hP, g1⟩ := hW0
 obtain ⟨ua, un, uc, g0⟩ := ok.hs _ _ hP
 rw [g1, g0] at e37
 have hr : (execOp a.eval o).run Tryz.prog w = .ok (.value (.slice (some ⟨w.heap.size, 0, none⟩) 1 1)) (w.alloc (.cells #[γ 0, .bool X.cl] 25)) := by
  rw [g0]
  generalize a.eval = ρ at e37 ⊢
  unfold execOp
  rw [hop]
  simp [e37, go_sem]
 unfold Oper.wp
 rw [hr]
 exact hK _ _ ⟨w, hP, rfl, rfl⟩
theorem DS4.s7 (X : DS4) (ok : DS4Ok X) {Q : PQ} : DS4.St X Q 7 := by
 intro γ listed a w o hF hC hW h1 ho h2
 obtain ⟨hd, hop, hg⟩ := fieldsL DS4.isL (i := 7) rfl ho
 have e38 : a.eval (.tmp 38) = γ 2 := known hF ho h2 (DS4.ini ok) ok.sz (by kernel_rfl)
 have hu := unl (hF.lt ho) h1
 refine st_actG (k := 3) DS4.chain DS4.nodup rfl hF hC hW h1 ho h2 (Or.inr ⟨6, hd, rfl⟩) (injG (by kernel_rfl) hu) hg ?_
 intro hW0 K hK
 obtain ⟨w1, hP, g2, hw1⟩ := hW0
 rw [g2] at e38
 have hr : (execOp a.eval o).run Tryz.prog w = .ok (.value (.slice (some ⟨w1.heap.size, 0, none⟩) 1 1)) w := by
  generalize a.eval = ρ at e38 ⊢
  unfold execOp
  rw [hop]
  simp [e38, go_sem]
 unfold Oper.wp
 rw [hr]
 exact hK _ _ ⟨w1, hP, rfl, hw1⟩
theorem DS4.size : (opsOf 4 Tryz.f6).size = 9 := by kernel_rfl
theorem DS4.rest (X : DS4) (ok : DS4Ok X) {Q : PQ} : ∀ i ∈ [2, 4, 5, 6, 7], DS4.St X Q i := by
 simp only [List.forall_mem_cons]
 exact ⟨DS4.s2 X ok,
  DS4.s4 X ok,
  DS4.s5 X ok,
  DS4.s6 X ok,
  DS4.s7 X ok, List.forall_mem_nil _⟩
theorem DS4.steps (X : DS4) (ok : DS4Ok X) {Q : PQ} (i : Nat) (hi : i < (opsOf 4 Tryz.f6).size) : DS4.St X Q i := by
 rw [DS4.size] at hi
 rcases (by decide : ∀ i, i < 9 → i ∈ [0, 3, 8] ∨ i ∈ [1] ∨ i ∈ [2, 4, 5, 6, 7]) i hi with h | h | h
 · exact DS4.plain X ok i h
 · exact DS4.soon X ok i h
 · exact DS4.rest X ok i h
theorem DS4.run (X : DS4) (ok : DS4Ok X) {Q : PQ} (w : World) (h0 : X.Wd 0 (fun _ => undef) w.drew) (hend : ∀ (γ : Nat → Value) w', X.Wd 4 γ w' → Q .normal (((((((((X.a0.put (some 32) (.pointer (some ⟨X.bl, 0, none⟩))).put (some 33) (.slice (some ⟨X.g, X.off, none⟩) X.n X.pc)).put (some 34) (γ 0)).put (some 35) (.pointer (some ⟨X.bl, 1, none⟩))).put (some 36) (.bool X.cl)).put (some 37) (γ 1)).put (some 38) (γ 2)).put (some 6) (γ 3)).put (some 7) (.bool true)) w') : (Code.region 4 (opsOf 4 Tryz.f6) true).wp Tryz.prog Q X.a0 w := by
 refine reg_act (acts := DS4.acts) (av := DS4.av) (val0 := X.val0) (Wd := X.Wd) (by kernel_rfl) (by kernel_rfl) (by rw [DS4.size]; decide) (fun i hi => DS4.steps X ok i hi) _ h0 ?_
 intro γ w' h
 exact end_at (hend γ w' h) (by kernel_rfl)
structure DS16 where
 bl : Nat
 bh : Nat
 bd : Nat
 g : Nat
 off : Nat
 n : Nat
 pc : Nat
 hx : Int
 hy : Int
 x : Int
 y : Int
 P : World → Prop
 W : World
 a0 : Act
structure DS16Ok (X : DS16) : Prop where
 c0 : X.W.cell? ⟨X.bl, 0, none⟩ = some (.slice (some ⟨X.g, X.off, none⟩) X.n X.pc)
 h0 : X.W.cell? ⟨X.bh, 0, none⟩ = some (.int .i64 X.hx)
 h1 : X.W.cell? ⟨X.bh, 1, none⟩ = some (.int .i64 X.hy)
 p0 : X.W.cell? ⟨X.g, X.off, none⟩ = some (.int .i64 X.x)
 p1 : X.W.cell? ⟨X.g, X.off + 1, none⟩ = some (.int .i64 X.y)
 hn : 0 < X.n
 hc : Calls Tryz.prog 33 #[.pointer (some ⟨X.bd, 0, none⟩), .agg #[.int .i64 X.hx, .int .i64 X.hy], .agg #[.int .i64 X.x, .int .i64 X.y]] X.W fun e w' => e = .returned (.tuple #[]) ∧ X.P w'
 e3 : X.a0.eval (.tmp 3) = .pointer (some ⟨X.bl, 0, none⟩)
 e8 : X.a0.eval (.tmp 8) = .pointer (some ⟨X.bd, 0, none⟩)
 e9 : X.a0.eval (.tmp 9) = .pointer (some ⟨X.bh, 0, none⟩)
 sz : X.a0.tmps.size = 85
def DS16.val0 (X : DS16) : Nat → Value
 | 3 => .pointer (some ⟨X.bl, 0, none⟩)
 | 8 => .pointer (some ⟨X.bd, 0, none⟩)
 | 9 => .pointer (some ⟨X.bh, 0, none⟩)
 | 67 => .agg #[.int .i64 X.hx, .int .i64 X.hy]
 | 68 => .pointer (some ⟨X.bl, 0, none⟩)
 | 69 => .slice (some ⟨X.g, X.off, none⟩) X.n X.pc
 | 70 => .pointer (some ⟨X.g, X.off, none⟩)
 | 71 => .agg #[.int .i64 X.x, .int .i64 X.y]
 | _ => undef
def DS16.av : Nat → Option Nat
 | 72 => some 0
 | _ => none
def DS16.acts : List Nat := [5]
def DS16.Wd (X : DS16) : Nat → (Nat → Value) → World → Prop
  | 0, _, w => w = X.W
  | _, _, w => X.P w
theorem DS16.chain : chainG (opsOf 16 Tryz.f6) DS16.acts = true := by kernel_rfl
theorem DS16.nodup : DS16.acts.Nodup := by decide
def DS16.L : List (Option Nat × Op × Option (Nat × Bool)) := [
 (some 67, .load 34 (.tmp 9), none),
 (some 68, .fieldAddr 25 (.tmp 3) 0, none),
 (some 69, .load 23 (.tmp 68), none),
 (some 70, .indexAddr 23 (.tmp 69) (.const (.int .i64 0)), none),
 (some 71, .load 34 (.tmp 70), none),
 (some 72, .call { callee := .value (.func 33), args := #[(.tmp 8), (.tmp 67), (.tmp 71)], argTypes := #[67, 34, 34] }, none)]
theorem DS16.isL : (opsOf 16 Tryz.f6).toList.map tri = DS16.L := by kernel_rfl
theorem DS16.ini {X : DS16} (ok : DS16Ok X) : ∀ n ∈ [3, 8, 9], X.a0.eval (.tmp n) = X.val0 n := by
 simp only [List.forall_mem_cons]
 exact ⟨ok.e3, ok.e8, ok.e9, List.forall_mem_nil _⟩
abbrev DS16.St (X : DS16) (Q : PQ) (i : Nat) : Prop := StepG (opsOf 16 Tryz.f6) DS16.acts DS16.av X.val0 X.Wd X.a0 Q i
theorem DS16.plain (X : DS16) (ok : DS16Ok X) {Q : PQ} : ∀ i ∈ [1, 3], DS16.St X Q i := by
 simp only [List.forall_mem_cons]
 refine ⟨?_, ?_, List.forall_mem_nil _⟩
 all_goals
  refine st_plain DS16.isL (DS16.ini ok) ok.sz rfl (by kernel_rfl) ?_
  intro γ w n o hW hop
  unfold execOp
  rw [hop]
  simp [envR, valG, DS16.av, DS16.val0, ok.hn, go_sem]
theorem DS16.soon (X : DS16) (ok : DS16Ok X) {Q : PQ} : ∀ i ∈ [0, 2, 4], DS16.St X Q i := by
 simp only [List.forall_mem_cons]
 refine ⟨?_, ?_, ?_, List.forall_mem_nil _⟩
 all_goals
  refine st_plainM (m := 0) DS16.isL (DS16.ini ok) ok.sz rfl (by kernel_rfl) ?_
  intro γ w n o hn hW hop
  obtain rfl : n = 0 := by omega
  have hk : w = X.W := hW
  subst hk
  unfold execOp
  rw [hop]
  simp [envR, valG, DS16.av, DS16.val0, ok.h0, ok.h1, ok.c0, ok.p0, ok.p1, go_sem]
theorem DS16.s5 (X : DS16) (ok : DS16Ok X) {Q : PQ} : DS16.St X Q 5 := by
 intro γ listed a w o hF hC hW h1 ho h2
 obtain ⟨hd, hop, hg⟩ := fieldsL DS16.isL (i := 5) rfl ho
 have e8 : a.eval (.tmp 8) = .pointer (some ⟨X.bd, 0, none⟩) := known hF ho h2 (DS16.ini ok) ok.sz (by kernel_rfl)
 have e67 : a.eval (.tmp 67) = .agg #[.int .i64 X.hx, .int .i64 X.hy] := known hF ho h2 (DS16.ini ok) ok.sz (by kernel_rfl)
 have e71 : a.eval (.tmp 71) = .agg #[.int .i64 X.x, .int .i64 X.y] := known hF ho h2 (DS16.ini ok) ok.sz (by kernel_rfl)
 have ef : a.eval (.func 33) = .func (.func 33) #[] #[] := rfl
 have hu := unl (hF.lt ho) h1
 refine st_actG (k := 0) DS16.chain DS16.nodup rfl hF hC hW h1 ho h2 (Or.inr ⟨72, hd, rfl⟩) (injG (by kernel_rfl) hu) hg ?_
 intro hW0 K hK
 have hw0 : w = X.W := hW0
 have hr : (execOp a.eval o).run Tryz.prog w = .ok (.enter 33 #[.pointer (some ⟨X.bd, 0, none⟩), .agg #[.int .i64 X.hx, .int .i64 X.hy], .agg #[.int .i64 X.x, .int .i64 X.y]]) w := by
  generalize a.eval = ρ at e8 e67 e71 ef ⊢
  unfold execOp
  rw [hop]
  simp [e8, e67, e71, ef, go_sem]
 unfold Oper.wp
 rw [hr]
 refine Calls.mono (by rw [hw0]; exact ok.hc) ?_
 rintro e w' ⟨rfl, h⟩
 exact hK _ _ h
theorem DS16.size : (opsOf 16 Tryz.f6).size = 6 := by kernel_rfl
theorem DS16.rest (X : DS16) (ok : DS16Ok X) {Q : PQ} : ∀ i ∈ [5], DS16.St X Q i := by
 simp only [List.forall_mem_cons]
 exact ⟨DS16.s5 X ok, List.forall_mem_nil _⟩
theorem DS16.steps (X : DS16) (ok : DS16Ok X) {Q : PQ} (i : Nat) (hi : i < (opsOf 16 Tryz.f6).size) : DS16.St X Q i := by
 rw [DS16.size] at hi
 rcases (by decide : ∀ i, i < 6 → i ∈ [1, 3] ∨ i ∈ [0, 2, 4] ∨ i ∈ [5]) i hi with h | h | h
 · exact DS16.plain X ok i h
 · exact DS16.soon X ok i h
 · exact DS16.rest X ok i h
theorem DS16.run (X : DS16) (ok : DS16Ok X) {Q : PQ} (w : World) (h0 : X.Wd 0 (fun _ => undef) w.drew) (hend : ∀ (γ : Nat → Value) w', X.Wd 1 γ w' → Q .normal ((((((X.a0.put (some 67) (.agg #[.int .i64 X.hx, .int .i64 X.hy])).put (some 68) (.pointer (some ⟨X.bl, 0, none⟩))).put (some 69) (.slice (some ⟨X.g, X.off, none⟩) X.n X.pc)).put (some 70) (.pointer (some ⟨X.g, X.off, none⟩))).put (some 71) (.agg #[.int .i64 X.x, .int .i64 X.y])).put (some 72) (γ 0)) w') : (Code.region 16 (opsOf 16 Tryz.f6) true).wp Tryz.prog Q X.a0 w := by
 refine reg_act (acts := DS16.acts) (av := DS16.av) (val0 := X.val0) (Wd := X.Wd) (by kernel_rfl) (by kernel_rfl) (by rw [DS16.size]; decide) (fun i hi => DS16.steps X ok i hi) _ h0 ?_
 intro γ w' h
 exact end_at (hend γ w' h) (by kernel_rfl)
def dnB (x : Int) : Bool := decide (0 ≤ x ∧ x ≤ 67108864)
def dshB (l : List Int) (f : Int) : Bool := decide (l.length ≤ 8) && (dnB f && l.all dnB)
theorem Ints.at {w : World} {a : Option Addr} {l : List Int} (h : Ints w a l) {k : Nat} (hk : k < l.length) : ∃ b off, a = some ⟨b, off, none⟩ ∧ w.cell? ⟨b, off + k, none⟩ = some (.int .i64 (intAt l k)) := by
 rcases h with h | ⟨b, off, rfl, hb, hc⟩
 ·rw [h] at hk; simp at hk
 ·exact ⟨b, off, rfl, hc k hk⟩
set_option maxHeartbeats 2000000 in
theorem igoodDash (w : World) (a : Option Addr) (c : Nat) (l : List Int) (f : Int) (hl : l.length ≤ 1048576) (hr : Ints w a l) :
  Calls Tryz.prog 28 #[.slice a l.length c, .int .i64 f] w fun e w' => e = .returned (.bool (dshB l f)) ∧ w' = w := by
 obtain ⟨V, hV⟩ : ∃ V, dshB l f = V := ⟨_, rfl⟩
 rw [hV]
 have HV : Hid (dshB l f = V) := hV
 have HR : Hid (Ints w a l) := hr
 have HF : Hid (∀ w, Calls Tryz.prog 26 #[.int .i64 f, .int .i64 0, .int .i64 67108864] w fun e w' => e = .returned (.bool (dnB f)) ∧ w' = w) := fun w => iin_any w f 0 67108864
 clear hr hV
 by_cases h8 : l.length ≤ 8
 ·have hd : decide ((8 : Int) < l.length) = false := decide_eq_false (by omega)
  cases hf : dnB f with
  | false =>
   have HX : Hid (V = false) := by show V = false; rw [← HV.out]; unfold dshB; rw [hf]; simp
   rw [hf] at HF
   clear hf
   go_enter Tryz.func28, Tryz.ntmps28
   go_wp2_with fail
   refine (HF.out _).mono ?_
   rintro e w1 ⟨rfl, rfl⟩
   go_wp2
   go_ret
   exact ⟨ret_bool HX.out.symm, rfl⟩
  | true =>
   rw [hf] at HF
   have HX : Hid (V = l.all dnB) := by show V = _; rw [← HV.out]; unfold dshB; rw [hf, decide_eq_true h8]; simp
   clear hf HV
   go_enter Tryz.func28, Tryz.ntmps28
   go_wp2_with fail
   refine (HF.out _).mono ?_
   rintro e w1 ⟨rfl, rfl⟩
   go_wp2
   go_loop [17] (fun i => ∃ k : Nat, k ≤ l.length ∧ i = .int .i64 k ∧ ∀ j, j < k → dnB (intAt l j) = true) (fun i => l.length - (intOf i).toNat)
   case atStart => exact ⟨0, Nat.zero_le _, rfl, fun j hj => absurd hj (by omega)⟩
   case round =>
    obtain ⟨k, hk, rfl, ha⟩ := hrel
    have HA : Hid _ := ha
    clear ha
    by_cases hlt : k < l.length
    ·obtain ⟨b, off, rfl, q⟩ := Ints.at HR.out hlt
     obtain ⟨x, hx⟩ : ∃ x, intAt l k = x := ⟨_, rfl⟩
     have HXX : Hid (intAt l k = x) := hx
     rw [hx] at q
     clear hx
     have HC : Hid (∀ w, Calls Tryz.prog 26 #[.int .i64 x, .int .i64 0, .int .i64 67108864] w fun e w' => e = .returned (.bool (dnB x)) ∧ w' = w) := fun w => iin_any w x 0 67108864
     cases hdn : dnB x with
     | false =>
      have HY : Hid (V = false) := HX.out.trans (all_false dnB 0 l k hlt (show dnB (intAt l k) = false by rw [HXX.out]; exact hdn))
      rw [hdn] at HC
      clear hdn
      go_wp2_with fail
      refine (HC.out _).mono ?_
      rintro e w2 ⟨rfl, rfl⟩
      go_wp2
      go_ret
      exact ⟨ret_bool HY.out.symm, rfl⟩
     | true =>
      have HY : Hid (dnB (intAt l k) = true) := by show _ = _; rw [HXX.out]; exact hdn
      rw [hdn] at HC
      clear hdn
      go_wp2_with fail
      refine (HC.out _).mono ?_
      rintro e w2 ⟨rfl, rfl⟩
      go_wp2
      go_round
      case rel =>
       refine ⟨k + 1, by omega, by go_num, fun j hj => ?_⟩
       rcases Nat.lt_succ_iff_lt_or_eq.1 hj with h | h
       ·exact HA.out j h
       ·rw [h]; exact HY.out
      case measure => simp [intOf]; omega
    ·have HY : Hid (V = true) := HX.out.trans (all_true dnB 0 l (fun j hj => HA.out j (by omega)))
     clear HA
     go_wp2
     go_ret
     exact ⟨ret_bool HY.out.symm, rfl⟩
 ·have hd : decide ((8 : Int) < l.length) = true := decide_eq_true (by omega)
  have HX : Hid (V = false) := by show V = false; rw [← HV.out]; unfold dshB; rw [decide_eq_false h8]; simp
  go_enter Tryz.func28, Tryz.ntmps28
  go_wp2
  go_ret
  exact ⟨ret_bool HX.out.symm, rfl⟩
def segsD (ns : List Int) (d : Dg) (p : List Pnt) : Nat → Dg
 | 0 => d
 | k + 1 => alongD ns (segsD ns d p k) (ptAt p k) (ptAt p (k + 1))
def dash0 (ns : List Int) (f : Int) (p : List Pnt) : Dg := segsD ns (reachD (startD ns (f % rndN ns)) (ptAt p 0)) p (p.length - 1)
def dash1 (ns : List Int) (f : Int) (p : List Pnt) (cl : Bool) : Dg := layD (if cl then alongD ns (dash0 ns f p) (lastP p) (ptAt p 0) else dash0 ns f p)
def dsIn (ns : List Int) (f : Int) (p : List Pnt) : Bool := decide (1 ≤ p.length ∧ p.length ≤ 600) && (nearsB p && dshB ns f)
def dsV (ns : List Int) (f : Int) (p : List Pnt) (cl : Bool) : List LD × Bool :=
 if dsIn ns f p then (if sumN ns ns.length = 0 then ([⟨p, cl⟩], true) else if 2400 < (dash1 ns f p cl).begun ∨ 600 < manyL (dash1 ns f p cl).o then ([], false) else ((dash1 ns f p cl).o, true)) else ([], false)
theorem dsh_NB {ns : List Int} {f : Int} (h : dshB ns f = true) : ns.length ≤ 8 ∧ (0 ≤ f ∧ f ≤ 67108864) ∧ ∀ i, i < ns.length → 0 ≤ intAt ns i ∧ intAt ns i ≤ 67108864 := by
 unfold dshB at h
 simp only [Bool.and_eq_true, decide_eq_true_eq, List.all_eq_true] at h
 refine ⟨h.1, ?_, fun i hi => ?_⟩
 ·have := h.2.1
  unfold dnB at this
  exact of_decide_eq_true this
 ·have := h.2.2 (ns.getD i 0) (by rw [show ns.getD i 0 = ns[i] from by simp [List.getD_eq_getElem?_getD, hi]]; exact List.getElem_mem hi)
  unfold dnB at this
  exact of_decide_eq_true this
theorem sum_some {ns : List Int} (h : sumN ns ns.length ≠ 0) : 0 < ns.length := by
 rcases Nat.eq_zero_or_pos ns.length with e | e
 ·rw [e] at h; exact absurd rfl h
 ·exact e
theorem one_ln {w : World} {B : Nat} {u : Value} {p : List Pnt} (cl : Bool) (h : OwnP w B u p) (hB : B ≤ w.heap.size) : OwnLn (w.alloc (.cells #[u, .bool cl] 25)) B (.slice (some ⟨w.heap.size, 0, none⟩) 1 1) [(u, ⟨p, cl⟩)] := by
 have n1 : Nw w (w.alloc (.cells #[u, .bool cl] 25)) := (Below.refl _ _).alloc (Nat.le_refl _) _
 refine ⟨World.ownsRow_lit w #[u, .bool cl] 1 hB (by unfold maxLen; omega) (by simp), fun i hi => ?_, fun i hi b hb e => ?_, fun i j hij hi hj => ?_⟩
 ·have : i = 0 := by simp at hi; omega
  subst this
  exact OwnQ.nw h n1
 ·have : i = 0 := by simp at hi; omega
  subst this
  have h1 := (OwnQ.lt h b hb).2
  have : w.heap.size = b := by simpa [Value.ownBlock] using e
  omega
 ·have : i = 0 := by simp at hi; omega
  have : j = 0 := by simp at hj; omega
  omega
section
variable (w : World) (pa : Option Addr) (pc : Nat) (p : List Pnt) (cl : Bool) (na : Option Addr) (nc : Nat) (ns : List Int) (f : Int) (hp : p.length ≤ 1048576) (hn : ns.length ≤ 1048576) (hP : Pts w pa p) (hI : Ints w na ns)
include hp hn hP hI
set_option maxRecDepth 100000 in
set_option maxHeartbeats 4000000 in
theorem idashA (hin : dsIn ns f p = false) : Calls Tryz.prog 6 #[.agg #[.slice pa p.length pc, .bool cl], .slice na ns.length nc, .int .i64 f] w fun e w' => e = .returned (.tuple #[.slice none 0 0, .bool false]) ∧ Nw w w' := by
 obtain ⟨W1, hW1⟩ : ∃ W1, w.alloc (.cells #[.slice pa p.length pc, .bool cl] 25) = W1 := ⟨_, rfl⟩
 have N1 : Hid (Nw w W1) := by show Nw _ _; rw [← hW1]; exact (Below.refl _ _).alloc (Nat.le_refl _) _
 have q0 : W1.cell? ⟨w.heap.size, 0, none⟩ = some (.slice pa p.length pc) := by rw [← hW1, World.cell?_alloc_at _ _ _ _ rfl]; rfl
 have HW1 : Hid (_ = W1) := hW1
 have H1 : Hid (∀ w, Calls Tryz.prog 26 #[.int .i64 (p.length : Int), .int .i64 1, .int .i64 600] w fun e w' => e = .returned (.bool (decide ((1 : Int) ≤ (p.length : Int) ∧ (p.length : Int) ≤ 600))) ∧ w' = w) := fun w => iin_any w p.length 1 600
 have HN : Hid _ := inear W1 pa pc p hp (Pts.nw hP N1.out)
 have HD : Hid (∀ w2, Nw W1 w2 → _) := fun w2 (k : Nw W1 w2) => igoodDash w2 na nc ns f hn (Ints.nw hI (Nw.trans N1.out k))
 have e1 : decide ((1 : Int) ≤ (p.length : Int) ∧ (p.length : Int) ≤ 600) = decide (1 ≤ p.length ∧ p.length ≤ 600) := by rw [Bool.eq_iff_iff]; simp; omega
 rw [e1] at H1
 unfold dsIn at hin
 generalize decide (1 ≤ p.length ∧ p.length ≤ 600) = b1 at *
 generalize nearsB p = b2 at *
 generalize dshB ns f = b3 at *
 clear e1 hW1 hP hI
 generalize p.length = np at *
 generalize ns.length = nn at *
 cases b1 with
 | false =>
  go_enter Tryz.func6, Tryz.ntmps6
  go_wp2_with fail
  rw [HW1.out]
  refine Calls.mono (H1.out _) ?_
  rintro e w2 ⟨rfl, rfl⟩
  go_wp2
  go_ret2
  exact ⟨rfl, N1.out⟩
 | true =>
  cases b2 with
  | false =>
   go_enter Tryz.func6, Tryz.ntmps6
   go_wp2_with fail
   rw [HW1.out]
   refine Calls.mono (H1.out _) ?_
   rintro e w2 ⟨rfl, rfl⟩
   go_wp2_with fail
   refine Calls.mono HN.out ?_
   rintro e w3 ⟨rfl, k3⟩
   have N3 : Hid (Nw w w3) := Nw.trans N1.out k3.nw
   clear k3
   go_wp2
   go_ret2
   exact ⟨rfl, N3.out⟩
  | true =>
   simp only [Bool.true_and] at hin
   rw [hin] at HD
   go_enter Tryz.func6, Tryz.ntmps6
   go_wp2_with fail
   rw [HW1.out]
   refine Calls.mono (H1.out _) ?_
   rintro e w2 ⟨rfl, rfl⟩
   go_wp2_with fail
   refine Calls.mono HN.out ?_
   rintro e w3 ⟨rfl, k3⟩
   have N3 : Hid (Nw w w3) := Nw.trans N1.out k3.nw
   have HD3 : Hid _ := HD.out w3 k3.nw
   clear k3
   go_wp2_with fail
   refine Calls.mono HD3.out ?_
   rintro e w4 ⟨rfl, rfl⟩
   go_wp2
   go_ret2
   exact ⟨rfl, N3.out⟩
set_option maxRecDepth 100000 in
set_option maxHeartbeats 4000000 in
theorem idashB (hin : dsIn ns f p = true) (hs : sumN ns ns.length = 0) : Calls Tryz.prog 6 #[.agg #[.slice pa p.length pc, .bool cl], .slice na ns.length nc, .int .i64 f] w fun e w' => ∃ v, e = .returned (.tuple #[v, .bool true]) ∧ LsOk w' w.heap.size v [⟨p, cl⟩] ∧ Nw w w' := by
 obtain ⟨W1, hW1⟩ : ∃ W1, w.alloc (.cells #[.slice pa p.length pc, .bool cl] 25) = W1 := ⟨_, rfl⟩
 have N1 : Hid (Nw w W1) := by show Nw _ _; rw [← hW1]; exact (Below.refl _ _).alloc (Nat.le_refl _) _
 have q0 : W1.cell? ⟨w.heap.size, 0, none⟩ = some (.slice pa p.length pc) := by rw [← hW1, World.cell?_alloc_at _ _ _ _ rfl]; rfl
 have q1 : W1.cell? ⟨w.heap.size, 1, none⟩ = some (.bool cl) := by rw [← hW1, World.cell?_alloc_at _ _ _ _ rfl]; rfl
 have HQ : Hid (W1.cell? ⟨w.heap.size, 0, none⟩ = some (.slice pa p.length pc) ∧ W1.cell? ⟨w.heap.size, 1, none⟩ = some (.bool cl)) := ⟨q0, q1⟩
 have LB : Hid (w.heap.size < W1.heap.size) := World.block_lt_of_cell? W1 ⟨w.heap.size, 0, none⟩ q0
 have HW1 : Hid (_ = W1) := hW1
 unfold dsIn at hin
 simp only [Bool.and_eq_true] at hin
 obtain ⟨i1, i2, i3⟩ := hin
 have i1' := of_decide_eq_true i1
 obtain ⟨z1, z2, z3⟩ := dsh_NB i3
 have H1 : Hid (∀ w, Calls Tryz.prog 26 #[.int .i64 (p.length : Int), .int .i64 1, .int .i64 600] w fun e w' => e = .returned (.bool (decide ((1 : Int) ≤ (p.length : Int) ∧ (p.length : Int) ≤ 600))) ∧ w' = w) := fun w => iin_any w p.length 1 600
 have e1 : decide ((1 : Int) ≤ (p.length : Int) ∧ (p.length : Int) ≤ 600) = true := by simp; omega
 rw [e1] at H1
 have HN : Hid _ := inear W1 pa pc p hp (Pts.nw hP N1.out)
 rw [i2] at HN
 have HD : Hid (∀ w2, Nw W1 w2 → _) := fun w2 (k : Nw W1 w2) => igoodDash w2 na nc ns f hn (Ints.nw hI (Nw.trans N1.out k))
 rw [i3] at HD
 have HS : Hid (∀ w2, Nw W1 w2 → _) := fun w2 (k : Nw W1 w2) => isum w2 na nc ns z1 z3 (Ints.nw hI (Nw.trans N1.out k))
 rw [hs] at HS
 obtain ⟨g, off, hpa, hlie⟩ := Pts.lie hP (by omega)
 subst hpa
 have HL : Hid (LieP w g off p) := hlie
 have HP6 : Hid (0 < p.length ∧ p.length ≤ 600) := ⟨by omega, i1'.2⟩
 clear e1 hW1 hP hI i1 i2 i3 i1' z1 z2 z3 hlie q1
 generalize hnp : p.length = np at *
 have HNP : Hid (p.length = np) := hnp
 clear hnp
 generalize ns.length = nn at *
 go_enter Tryz.func6, Tryz.ntmps6
 go_wp2_with fail
 rw [HW1.out]
 refine Calls.mono (H1.out _) ?_
 rintro e w2 ⟨rfl, rfl⟩
 go_wp2_with fail
 refine Calls.mono HN.out ?_
 rintro e w3 ⟨rfl, k3⟩
 have N3 : Hid (Nw w w3) := Nw.trans N1.out k3.nw
 have M3 : Hid (Nw w2 w3) := k3.nw
 have HD3 : Hid _ := HD.out w3 k3.nw
 have HS3 : Hid _ := HS.out w3 k3.nw
 clear k3
 go_wp2_with fail
 refine Calls.mono HD3.out ?_
 rintro e w4 ⟨rfl, rfl⟩
 go_wp2_with fail
 refine Calls.mono HS3.out ?_
 rintro e w5 ⟨rfl, rfl⟩
 clear q0
 go_wp2
 have n0 : Nw w5 w5.drew := (Below.refl _ _).drew
 have m5 := Nw.trans M3.out n0
 have c0 := ((bcell m5).1 _ _ LB.out).trans HQ.out.1
 have c1 := ((bcell m5).1 _ _ LB.out).trans HQ.out.2
 have HC : Hid (Calls Tryz.prog 30 #[.slice (some ⟨g, off, none⟩) np pc] w5.drew fun e w' => ∃ u, e = .returned u ∧ OwnP w' w5.drew.heap.size u p ∧ Nw w5.drew w') := by
  have := iclone w5.drew g off pc p (by rw [HNP.out]; exact HP6.out.1) (by rw [HNP.out]; have := HP6.out.2; omega) (LieP.nw HL.out (Nw.trans N3.out n0))
  rw [HNP.out] at this
  exact this
 have N5 : Hid (Nw w w5.drew) := Nw.trans N3.out n0
 refine reg_change (ops' := opsOf 4 Tryz.f6) (by kernel_rfl) ?_
 refine DS4.run ⟨w.heap.size, g, off, np, pc, cl, fun w' u => OwnP w' w5.drew.heap.size u p ∧ Nw w5.drew w', w5.drew, _⟩ ⟨c0, c1, HC.out, fun _ _ h => h.2, fun _ _ h => OwnQ.slice h.1, rfl, rfl⟩ w5 rfl ?_
 rintro γ w9 ⟨w1, ⟨o1, n1⟩, g3, hw9⟩
 simp only at o1 n1 g3 hw9
 have OL := one_ln cl o1 (Below.size n1)
 have N9 : Hid (Nw w w9) := by show Nw _ _; rw [hw9]; exact Nw.trans N5.out (Nw.trans n1 ((Below.refl _ _).alloc (Nat.le_refl _) _))
 rw [← hw9] at OL
 have O9 : Hid (LsOk w9 w.heap.size (.slice (some ⟨w1.heap.size, 0, none⟩) 1 1) [⟨p, cl⟩]) := LsOk.of (OwnLn.base OL (Below.size N5.out)) rfl
 simp only [g3, Act.put, List.setIfInBounds_toArray, List.set_cons_zero, List.set_cons_succ]
 clear OL o1 n1 hw9 g3 c0 c1 m5 n0
 generalize γ 0 = z0 at *
 generalize γ 1 = z1 at *
 generalize γ 2 = z2 at *
 go_wp2
 go_ret2
 exact ⟨_, rfl, O9.out, N9.out⟩
end
structure Wk where
 k : Nat
 left : Int
 now : List Pnt
 out : List LD
 many : Nat
 begun : Nat
def endW (s : Wk) : Wk := ⟨s.k, s.left, [], if 1 < s.now.length ∧ s.many + s.now.length ≤ 600 then s.out ++ [⟨s.now, false⟩] else s.out, if 1 < s.now.length then s.many + s.now.length else s.many, s.begun⟩
def stepW (ms : List Int) (q : Pnt) (s : Wk) : Wk :=
 ⟨(s.k + 1) % ms.length, intAt ms ((s.k + 1) % ms.length), if (s.k + 1) % ms.length % 2 = 0 ∧ 0 < intAt ms ((s.k + 1) % ms.length) then [q] else (if s.k % 2 = 0 then endW s else s).now, (if s.k % 2 = 0 then endW s else s).out, (if s.k % 2 = 0 then endW s else s).many, s.begun + 1⟩
def nextW (ms : List Int) (q : Pnt) : Nat → Wk → Wk
 | 0, s => s
 | f + 1, s => if s.left = 0 ∧ s.begun ≤ 2400 then nextW ms q f (stepW ms q s) else s
def addB (s : Wk) (q : Pnt) : Bool := decide (s.k % 2 = 0) && (decide (s.now.length = 0) || !decide (lastP s.now = q))
def addW (s : Wk) (q : Pnt) : Wk := if addB s q then ⟨s.k, s.left, s.now ++ [q], s.out, s.many, s.begun⟩ else s
def goW (ms : List Int) (q : Pnt) (s : Wk) : Wk := nextW ms q (2401 - s.begun) s
def zeroW (s : Wk) : Wk := ⟨s.k, 0, s.now, s.out, s.many, s.begun⟩
def lessW (s : Wk) (x : Int) : Wk := ⟨s.k, s.left - x, s.now, s.out, s.many, s.begun⟩
def inW (ms : List Int) (a b : Pnt) (n : Int) (s : Wk) (g : Int) : Wk := goW ms (placeV a b (g + s.left) n) (addW (zeroW s) (placeV a b (g + s.left) n))
def loopW (ms : List Int) (a b : Pnt) (n : Int) : Nat → Wk → Int → Wk × Int
 | 0, s, g => (s, g)
 | f + 1, s, g => if s.left < n - g ∧ s.many ≤ 600 ∧ s.begun ≤ 2400 then loopW ms a b n f (inW ms a b n s g) (g + s.left) else (s, g)
def tailW (ms : List Int) (b : Pnt) (n : Int) (s : Wk) (g : Int) : Wk := if 0 < n then goW ms b (addW (lessW s (n - g)) b) else lessW s (n - g)
def segW (ms : List Int) (s : Wk) (a b : Pnt) : Wk := tailW ms b (szV a b) (loopW ms a b (szV a b) (2402 - s.begun) s 0).1 (loopW ms a b (szV a b) (2402 - s.begun) s 0).2
def badW (s : Wk) : Prop := 2400 < s.begun ∨ 600 < s.many
def badD (d : Dg) : Prop := 2400 < d.begun ∨ 600 < manyL d.o
structure Twice (ns ms : List Int) : Prop where
 pos : 0 < ms.length
 even : ms.length % 2 = 0
 same : ∀ j, intAt ms (j % ms.length) = intAt ns (j % ns.length)
structure One (ms : List Int) (d : Dg) (s : Wk) : Prop where
 k : s.k = d.at' % ms.length
 left : s.left = d.left
 pos : 0 < d.left
 now : s.now = d.p
 out : s.out = d.o
 many : s.many = manyL d.o
 begun : s.begun = d.begun
 gap : d.at' % 2 = 1 → d.p = []
 b1 : d.begun ≤ 2400
 b2 : manyL d.o ≤ 600
structure Zr (ms : List Int) (q : Pnt) (d : Dg) (s : Wk) : Prop where
 k : s.k = d.at' % ms.length
 out : manyL d.o ≤ 600 → s.out = d.o
 many : s.many = manyL d.o
 begun : s.begun = d.begun
 gap : d.at' % 2 = 1 → d.p = [] ∧ s.now = []
 now : (reachD d q).p = s.now ∨ ((reachD d q).p.length ≤ 1 ∧ s.now.length ≤ 1)
theorem mod2 {ms : List Int} (he : ms.length % 2 = 0) (j : Nat) : j % ms.length % 2 = j % 2 := Nat.mod_mod_of_dvd _ (Nat.dvd_of_mod_eq_zero he)
theorem manyL_end (o : List LD) (p : List Pnt) (c : Bool) : manyL (endL o p c) = if 1 < p.length then manyL o + p.length else manyL o := by
 unfold endL
 split
 ·rw [manyL_app]; simp [manyL]
 ·rfl
theorem turn_eq (ns : List Int) (d : Dg) (q : Pnt) : turnD ns d q = ⟨d.at' + 1, intAt ns ((d.at' + 1) % ns.length), d.begun + 1, if (d.at' + 1) % 2 = 1 then [] else [q], endL d.o (reachD d q).p false⟩ := by
 obtain ⟨_, b2, b3, b4, b5⟩ := rD_bd d q
 unfold turnD moreD nextD layD
 rw [b2, b3, b4]
 rw [reachD, skipB]
 by_cases h : (d.at' + 1) % 2 = 1
 ·simp [h]
 ·simp [h]
theorem reach_turn (ns : List Int) (d : Dg) (q : Pnt) : (reachD (turnD ns d q) q).p = (turnD ns d q).p := by
 rw [turn_eq]
 unfold reachD skipB
 by_cases h : (d.at' + 1) % 2 = 1
 ·simp [h]
 ·simp [h, lastP, ptAt]
theorem Zr.step {ns ms : List Int} {q : Pnt} {d : Dg} {s : Wk} (T : Twice ns ms) (h : Zr ms q d s) : Zr ms q (turnD ns d q) (stepW ms q s) ∧ (stepW ms q s).left = (turnD ns d q).left ∧ (0 < (turnD ns d q).left → (stepW ms q s).now = (turnD ns d q).p) := by
 have hk : (s.k + 1) % ms.length = (d.at' + 1) % ms.length := by rw [h.k, Nat.mod_add_mod]
 have hl : intAt ms ((d.at' + 1) % ms.length) = intAt ns ((d.at' + 1) % ns.length) := T.same _
 have hp2 : s.k % 2 = d.at' % 2 := by rw [h.k]; exact mod2 T.even _
 have hq2 : (d.at' + 1) % ms.length % 2 = (d.at' + 1) % 2 := mod2 T.even _
 have hrt := reach_turn ns d q
 rw [turn_eq] at hrt ⊢
 simp only at hrt ⊢
 have hst : stepW ms q s = ⟨(d.at' + 1) % ms.length, intAt ns ((d.at' + 1) % ns.length), if (d.at' + 1) % 2 = 0 ∧ 0 < intAt ns ((d.at' + 1) % ns.length) then [q] else (if d.at' % 2 = 0 then endW s else s).now, (if d.at' % 2 = 0 then endW s else s).out, (if d.at' % 2 = 0 then endW s else s).many, s.begun + 1⟩ := by
  unfold stepW; rw [hk, hl, hp2, hq2]
 rw [hst]
 have hnow : (if d.at' % 2 = 0 then endW s else s).now = [] := by
  split
  ·rfl
  ·exact (h.gap (by omega)).2
 have hmany : (if d.at' % 2 = 0 then endW s else s).many = manyL (endL d.o (reachD d q).p false) := by
  rw [manyL_end, ← h.many]
  split
  ·show (if 1 < s.now.length then s.many + s.now.length else s.many) = _
   rcases h.now with e | ⟨e1, e2⟩
   ·rw [e]
   ·rw [if_neg (by omega), if_neg (by omega)]
  ·have g := h.gap (by omega)
   have : (reachD d q).p = [] := by
    unfold reachD skipB
    rw [show decide (d.at' % 2 = 1) = true from by simp; omega, Bool.true_or, if_pos rfl]; exact g.1
   rw [this]; rfl
 have hout : manyL (endL d.o (reachD d q).p false) ≤ 600 → (if d.at' % 2 = 0 then endW s else s).out = endL d.o (reachD d q).p false := by
  intro hm
  rw [manyL_end, ← h.many] at hm
  have ho := h.out
  rw [← h.many] at ho
  split
  ·show (if 1 < s.now.length ∧ s.many + s.now.length ≤ 600 then s.out ++ [⟨s.now, false⟩] else s.out) = _
   unfold endL
   rcases h.now with e | ⟨e1, e2⟩
   ·rw [e] at hm ⊢
    by_cases h1 : 1 < s.now.length
    ·rw [if_pos h1] at hm
     rw [if_pos ⟨h1, hm⟩, if_pos h1, ho (by omega)]
    ·rw [if_neg h1] at hm
     rw [if_neg (fun e => h1 e.1), if_neg h1, ho hm]
   ·rw [if_neg (by omega)] at hm
    rw [if_neg (by omega), if_neg (by omega), ho hm]
  ·have g := h.gap (by omega)
   have : (reachD d q).p = [] := by
    unfold reachD skipB
    rw [show decide (d.at' % 2 = 1) = true from by simp; omega, Bool.true_or, if_pos rfl]; exact g.1
   rw [this] at hm ⊢
   exact ho hm
 refine ⟨⟨rfl, hout, hmany, by rw [h.begun], fun g => ?_, ?_⟩, rfl, fun hpos => ?_⟩
 ·simp only at g ⊢
  rw [if_pos g, if_neg (by omega), hnow]; exact ⟨rfl, rfl⟩
 ·rw [hrt]
  simp only
  by_cases g : (d.at' + 1) % 2 = 1
  ·rw [if_pos g, if_neg (by omega), hnow]; exact Or.inl rfl
  ·rw [if_neg g]
   by_cases hp : 0 < intAt ns ((d.at' + 1) % ns.length)
   ·rw [if_pos ⟨by omega, hp⟩]; exact Or.inl rfl
   ·rw [if_neg (fun e => hp e.2), hnow]; exact Or.inr ⟨by simp, by simp⟩
 ·simp only at hpos ⊢
  by_cases g : (d.at' + 1) % 2 = 1
  ·rw [if_pos g, if_neg (by omega), hnow]
  ·rw [if_neg g, if_pos ⟨by omega, hpos⟩]
theorem Zr.one {ns ms : List Int} {q : Pnt} {d : Dg} {s : Wk} (h : Zr ms q d s) (hl : s.left = d.left) (hp : 0 < d.left) (hn : s.now = d.p) (b1 : d.begun ≤ 2400) (b2 : manyL d.o ≤ 600) : One ms d s :=
 ⟨h.k, hl, hp, hn, h.out b2, h.many, h.begun, fun g => (h.gap g).1, b1, b2⟩
theorem turn_bad (ns : List Int) {d : Dg} (q : Pnt) (h : badD d) : badD (turnD ns d q) := by
 rw [turn_eq]
 rcases h with h | h
 ·exact Or.inl (by show 2400 < d.begun + 1; omega)
 ·refine Or.inr ?_
  show 600 < manyL (endL d.o (reachD d q).p false)
  rw [manyL_end]; split <;> omega
theorem reach_bad {d : Dg} (q : Pnt) (h : badD d) : badD (reachD d q) := by
 obtain ⟨_, b2, b3, b4, b5⟩ := rD_bd d q
 unfold badD; rw [b2, b4]; exact h
theorem walk_bad (ns : List Int) (a b : Pnt) (n : Int) : ∀ (f : Nat) (d : Dg) (g : Int), badD d → badD (walkD ns a b n f d g)
 | 0, d, g, h => h
 | f + 1, d, g, h => by
  rw [walkD]
  split
  ·split
   ·exact turn_bad ns _ h
   ·exact walk_bad ns a b n f _ _ (turn_bad ns _ h)
  ·exact reach_bad b (d := ⟨d.at', d.left - (n - g), d.begun, d.p, d.o⟩) h
theorem step_bad (ms : List Int) (q : Pnt) {s : Wk} (h : badW s) : badW (stepW ms q s) := by
 rcases h with h | h
 ·exact Or.inl (by show 2400 < s.begun + 1; omega)
 ·refine Or.inr ?_
  show 600 < (if s.k % 2 = 0 then endW s else s).many
  split
  ·show 600 < if 1 < s.now.length then s.many + s.now.length else s.many
   split <;> omega
  ·exact h
theorem next_bad (ms : List Int) (q : Pnt) : ∀ (f : Nat) (s : Wk), badW s → badW (nextW ms q f s)
 | 0, s, h => h
 | f + 1, s, h => by
  rw [nextW]
  split
  ·exact next_bad ms q f _ (step_bad ms q h)
  ·exact h
theorem add_bad {s : Wk} (q : Pnt) (h : badW s) : badW (addW s q) := by
 unfold addW
 split
 ·exact h
 ·exact h
theorem tail_bad (ms : List Int) (b : Pnt) (n : Int) {s : Wk} (g : Int) (h : badW s) : badW (tailW ms b n s g) := by
 unfold tailW goW
 split
 ·exact next_bad ms b _ _ (add_bad b (s := lessW s (n - g)) h)
 ·exact h
theorem loop_bad (ms : List Int) (a b : Pnt) (n : Int) {s : Wk} (g : Int) (h : badW s) : ∀ f, loopW ms a b n f s g = (s, g)
 | 0 => rfl
 | f + 1 => by
  rw [loopW, if_neg]
  rintro ⟨_, h2, h3⟩
  rcases h with h | h <;> omega
theorem zeros {ns ms : List Int} (T : Twice ns ms) (hN : ∀ j, 0 ≤ intAt ns (j % ns.length)) (a b : Pnt) (n : Int) (q : Pnt) (g' : Int) (hq : q = placeV a b g' n) (hg : g' ≤ n) : ∀ (m : Nat) (f : Nat) (d : Dg) (s : Wk) (g : Int), 2400 - d.begun = m → d.begun ≤ 2400 → Zr ms q d s → s.left = 0 → g + d.left = g' → 0 ≤ d.left → 2402 - d.begun ≤ f →
  (badD (walkD ns a b n f d g) ∧ badW (nextW ms q (2401 - s.begun) s)) ∨ ∃ d' f', One ms d' (nextW ms q (2401 - s.begun) s) ∧ walkD ns a b n f d g = walkD ns a b n f' d' g' ∧ 2402 - d'.begun ≤ f' ∧ d.begun < d'.begun ∧ (reachD d' q).p = d'.p := by
 intro m
 induction m with
 | zero =>
  intro f d s g hm hb hz hs hgg h0 hf
  obtain ⟨f1, rfl⟩ : ∃ f1, f = f1 + 1 := ⟨f - 1, by omega⟩
  obtain ⟨z1, z2, z3⟩ := hz.step T
  have hbe : d.begun = 2400 := by omega
  refine Or.inl ⟨?_, ?_⟩
  ·rw [walkD, if_pos (by omega), hgg, ← hq, if_pos (by rw [turn_eq]; show 2400 < d.begun + 1; omega)]
   exact Or.inl (by rw [turn_eq]; show 2400 < d.begun + 1; omega)
  ·rw [show 2401 - s.begun = 0 + 1 from by rw [hz.begun]; omega, nextW, if_pos ⟨hs, by rw [hz.begun]; omega⟩, nextW]
   exact Or.inl (by show 2400 < s.begun + 1; rw [hz.begun]; omega)
 | succ m ih =>
  intro f d s g hm hb hz hs hgg h0 hf
  obtain ⟨f1, rfl⟩ : ∃ f1, f = f1 + 1 := ⟨f - 1, by omega⟩
  obtain ⟨z1, z2, z3⟩ := hz.step T
  have hbt : (turnD ns d q).begun = d.begun + 1 := by rw [turn_eq]
  have hlt : 0 ≤ (turnD ns d q).left := by rw [turn_eq]; exact hN _
  have e1 : walkD ns a b n (f1 + 1) d g = walkD ns a b n f1 (turnD ns d q) g' := by
   rw [walkD, if_pos (by omega), hgg, ← hq, if_neg (by rw [hbt]; omega)]
  have e2 : nextW ms q (2401 - s.begun) s = nextW ms q (2401 - (stepW ms q s).begun) (stepW ms q s) := by
   have : (stepW ms q s).begun = s.begun + 1 := rfl
   rw [show 2401 - s.begun = (2401 - (stepW ms q s).begun) + 1 from by rw [this, hz.begun]; omega, nextW, if_pos ⟨hs, by rw [hz.begun]; omega⟩]
  rw [e1, e2]
  by_cases hp : 0 < (turnD ns d q).left
  ·have e3 : nextW ms q (2401 - (stepW ms q s).begun) (stepW ms q s) = stepW ms q s := by
    cases 2401 - (stepW ms q s).begun with
    | zero => rfl
    | succ f => rw [nextW, if_neg]; rintro ⟨h1, _⟩; rw [z2] at h1; omega
   rw [e3]
   by_cases hm6 : manyL (turnD ns d q).o ≤ 600
   ·refine Or.inr ⟨turnD ns d q, f1, Zr.one (ns := ns) z1 z2 hp (z3 hp) (by omega) hm6, rfl, by omega, by omega, reach_turn ns d q⟩
   ·exact Or.inl ⟨walk_bad ns a b n _ _ _ (Or.inr (by omega)), Or.inr (by rw [z1.many]; omega)⟩
  ·have hz0 : (turnD ns d q).left = 0 := by omega
   rcases ih f1 (turnD ns d q) (stepW ms q s) g' (by omega) (by omega) z1 (z2.trans hz0) (by omega) hlt (by omega) with hbad | ⟨d', f', h1, h2, h3, h4, h5⟩
   ·exact Or.inl hbad
   ·exact Or.inr ⟨d', f', h1, h2, h3, by omega, h5⟩
theorem One.zr {ms : List Int} {d : Dg} {s : Wk} (he : ms.length % 2 = 0) (h : One ms d s) (q : Pnt) (x : Int) : Zr ms q d (addW ⟨s.k, x, s.now, s.out, s.many, s.begun⟩ q) := by
 have hp2 : s.k % 2 = d.at' % 2 := by rw [h.k]; exact mod2 he _
 have hb : addB ⟨s.k, x, s.now, s.out, s.many, s.begun⟩ q = !skipB d q := by
  unfold addB skipB
  simp only [hp2, h.now]
  rw [Bool.not_or, Bool.not_and]
  congr 1
  ·rw [Bool.eq_iff_iff]; simp
  ·congr 1
   rw [Bool.eq_iff_iff]; simp
 unfold addW
 rw [hb]
 cases hs : skipB d q with
 | true =>
  have e : (reachD d q).p = d.p := by unfold reachD; rw [hs, if_pos rfl]
  exact ⟨h.k, fun _ => h.out, h.many, h.begun, fun g => ⟨h.gap g, h.now.trans (h.gap g)⟩, Or.inl (by rw [e]; exact h.now.symm)⟩
 | false =>
  have e : (reachD d q).p = d.p ++ [q] := by unfold reachD; rw [hs]; rfl
  refine ⟨h.k, fun _ => h.out, h.many, h.begun, fun g => ?_, Or.inl (by rw [e, ← h.now]; rfl)⟩
  exfalso
  unfold skipB at hs
  rw [decide_eq_true g] at hs
  cases hs
theorem placeV_end (a b : Pnt) (n : Int) (hn : 0 < n) : placeV a b n n = b := by
 unfold placeV
 rw [Int.mul_ediv_cancel _ (by omega), Int.mul_ediv_cancel _ (by omega)]
 apply Prod.ext <;> simp <;> omega
theorem add_left (s : Wk) (q : Pnt) : (addW s q).left = s.left ∧ (addW s q).begun = s.begun := by
 unfold addW
 split <;> exact ⟨rfl, rfl⟩
theorem side_both {ns ms : List Int} (T : Twice ns ms) (hN : ∀ j, 0 ≤ intAt ns (j % ns.length)) (a b : Pnt) (n : Int) (hn : 0 < n) : ∀ (m : Nat) (f f2 : Nat) (d : Dg) (s : Wk) (g : Int), 2400 - d.begun = m → One ms d s → g ≤ n → 2402 - d.begun ≤ f → 2401 - d.begun ≤ f2 →
  (badD (walkD ns a b n f d g) ∧ badW (tailW ms b n (loopW ms a b n f2 s g).1 (loopW ms a b n f2 s g).2)) ∨ One ms (walkD ns a b n f d g) (tailW ms b n (loopW ms a b n f2 s g).1 (loopW ms a b n f2 s g).2) := by
 intro m
 induction m using Nat.strongRecOn with
 | ind m ih =>
  intro f f2 d s g hm h hg hf hf2
  have hb1 := h.b1
  have hpos := h.pos
  obtain ⟨f1, rfl⟩ : ∃ f1, f = f1 + 1 := ⟨f - 1, by omega⟩
  obtain ⟨f3, rfl⟩ : ∃ f3, f2 = f3 + 1 := ⟨f2 - 1, by omega⟩
  rcases Int.lt_trichotomy d.left (n - g) with hlt | heq | hgt
  ·
   have e2 : loopW ms a b n (f3 + 1) s g = loopW ms a b n f3 (inW ms a b n s g) (g + d.left) := by
    rw [loopW, if_pos ⟨by rw [h.left]; exact hlt, by rw [h.many]; exact h.b2, by rw [h.begun]; exact h.b1⟩, h.left]
   have hin : inW ms a b n s g = nextW ms (placeV a b (g + d.left) n) (2401 - (addW (zeroW s) (placeV a b (g + d.left) n)).begun) (addW (zeroW s) (placeV a b (g + d.left) n)) := by
    unfold inW goW; rw [h.left]
   have hz := h.zr T.even (placeV a b (g + d.left) n) 0
   have hal := add_left (zeroW s) (placeV a b (g + d.left) n)
   rw [e2]
   rcases zeros T hN a b n _ (g + d.left) rfl (by omega) _ (f1 + 1) d (addW (zeroW s) (placeV a b (g + d.left) n)) g rfl h.b1 hz hal.1 rfl (by omega) (by omega) with ⟨w1, w2⟩ | ⟨d', f', h1, h2, h3, h4, h5⟩
   ·rw [hin]
    refine Or.inl ⟨w1, ?_⟩
    rw [loop_bad ms a b n _ w2]
    exact tail_bad ms b n _ w2
   ·rw [h2, hin]
    have := h1.b1
    exact ih (2400 - d'.begun) (by omega) f' f3 d' _ (g + d.left) rfl h1 (by omega) h3 (by omega)
  ·
   have e2 : loopW ms a b n (f3 + 1) s g = (s, g) := by
    rw [loopW, if_neg]
    rintro ⟨h1, _⟩; rw [h.left] at h1; omega
   rw [e2]
   have hgd : g + d.left = n := by omega
   have hq := placeV_end a b n hn
   have hls : lessW s (n - g) = zeroW s := by
    unfold lessW zeroW; rw [h.left, heq]; congr 1; omega
   have et : tailW ms b n s g = nextW ms b (2401 - (addW (zeroW s) b).begun) (addW (zeroW s) b) := by
    unfold tailW goW; rw [if_pos hn, hls]
   rw [et]
   have hz := h.zr T.even b 0
   have hal := add_left (zeroW s) b
   rcases zeros T hN a b n b n hq.symm (by omega) _ (f1 + 1) d (addW (zeroW s) b) g rfl h.b1 hz hal.1 hgd (by omega) (by omega) with hbad | ⟨d', f', h1, h2, h3, h4, h5⟩
   ·exact Or.inl hbad
   ·refine Or.inr ?_
    have hp' := h1.pos
    have hb' := h1.b1
    obtain ⟨f4, rfl⟩ : ∃ f4, f' = f4 + 1 := ⟨f' - 1, by omega⟩
    rw [h2, walkD, if_neg (by omega)]
    have e3 : (⟨d'.at', d'.left - (n - n), d'.begun, d'.p, d'.o⟩ : Dg) = d' := by
     cases d'; simp
    rw [e3]
    have e4 : reachD d' b = d' := by
     unfold reachD at h5 ⊢
     split
     ·rfl
     ·rename_i hs
      rw [if_neg hs] at h5
      simp at h5
    rw [e4]; exact h1
  ·
   have e2 : loopW ms a b n (f3 + 1) s g = (s, g) := by
    rw [loopW, if_neg]
    rintro ⟨h1, _⟩; rw [h.left] at h1; omega
   rw [e2, walkD, if_neg (by omega)]
   refine Or.inr ?_
   have hz := h.zr T.even b (s.left - (n - g))
   have hal := add_left (lessW s (n - g)) b
   have et : tailW ms b n s g = addW (lessW s (n - g)) b := by
    unfold tailW goW; rw [if_pos hn]
    cases 2401 - (addW (lessW s (n - g)) b).begun with
    | zero => rfl
    | succ f => rw [nextW, if_neg]; rintro ⟨h1, _⟩; rw [hal.1] at h1; have : s.left - (n - g) = 0 := h1; rw [h.left] at this; omega
   rw [et]
   obtain ⟨_, c2, c3, c4, c5⟩ := rD_bd (⟨d.at', d.left - (n - g), d.begun, d.p, d.o⟩ : Dg) b
   have e5 : (reachD (⟨d.at', d.left - (n - g), d.begun, d.p, d.o⟩ : Dg) b).p = (reachD d b).p := by
    unfold reachD skipB
    simp only
    split <;> rfl
   refine ⟨?_, ?_, by rw [c5]; show 0 < d.left - (n - g); omega, ?_, ?_, ?_, ?_, ?_, by rw [c4]; exact h.b1, by rw [c2]; exact h.b2⟩
   ·rw [c3]; exact hz.k
   ·rw [hal.1, c5]; show s.left - (n - g) = d.left - (n - g); rw [h.left]
   ·rw [e5]
    have hp2 : s.k % 2 = d.at' % 2 := by rw [h.k]; exact mod2 T.even _
    rcases hz.now with e | ⟨e6, e7⟩
    ·exact e.symm
    ·unfold addW reachD at *
     have hb : addB (lessW s (n - g)) b = !skipB d b := by
      unfold addB skipB lessW
      simp only [hp2, h.now]
      rw [Bool.not_or, Bool.not_and]
      congr 1
      ·rw [Bool.eq_iff_iff]; simp
      ·congr 1
       rw [Bool.eq_iff_iff]; simp
     rw [hb]
     cases skipB d b with
     | true => exact h.now
     | false => show s.now ++ [b] = d.p ++ [b]; rw [h.now]
   ·rw [c2]; exact hz.out h.b2
   ·rw [c2]; exact hz.many
   ·rw [c4]; exact hz.begun
   ·rw [c3, e5]
    intro g2
    have := h.gap g2
    unfold reachD skipB
    rw [show decide (d.at' % 2 = 1) = true from by simpa using g2, Bool.true_or, if_pos rfl]; exact this
def Both (ms : List Int) (d : Dg) (s : Wk) : Prop := (badD d ∧ badW s) ∨ One ms d s
theorem seg_both {ns ms : List Int} (T : Twice ns ms) (hN : ∀ j, 0 ≤ intAt ns (j % ns.length)) (a b : Pnt) {d : Dg} {s : Wk} (h : Both ms d s) : Both ms (alongD ns d a b) (segW ms s a b) := by
 have hnn := (szV_is a b).1
 unfold alongD segW
 rcases h with ⟨h1, h2⟩ | h
 ·refine Or.inl ⟨?_, ?_⟩
  ·split
   ·exact h1
   ·exact walk_bad ns a b _ _ _ _ h1
  ·rw [loop_bad ms a b _ _ h2]; exact tail_bad ms b _ _ h2
 ·by_cases hz : szV a b = 0
  ·rw [if_pos hz, hz]
   have hp := h.pos
   have : loopW ms a b 0 (2402 - s.begun) s 0 = (s, 0) := by
    cases 2402 - s.begun with
    | zero => rfl
    | succ f => rw [loopW, if_neg]; rintro ⟨h1, _⟩; rw [h.left] at h1; omega
   rw [this]
   refine Or.inr ?_
   unfold tailW
   rw [if_neg (by omega)]
   have e : lessW s (0 - 0) = s := by cases s; simp [lessW]
   rw [e]; exact h
  ·rw [if_neg hz]
   have := h.b1
   exact side_both T hN a b _ (by omega) _ _ _ d s 0 rfl h hnn (by omega) (by rw [h.begun]; omega)
theorem end_both {ms : List Int} (he : ms.length % 2 = 0) {d : Dg} {s : Wk} (h : Both ms d s) :
  (badD (layD d) ∧ badW (if s.k % 2 = 0 then endW s else s)) ∨ (¬ badD (layD d) ∧ ¬ badW (if s.k % 2 = 0 then endW s else s) ∧ (if s.k % 2 = 0 then endW s else s).out = (layD d).o) := by
 rcases h with ⟨h1, h2⟩ | h
 ·refine Or.inl ⟨?_, ?_⟩
  ·rcases h1 with h1 | h1
   ·exact Or.inl h1
   ·refine Or.inr ?_
    show 600 < manyL (endL d.o d.p false)
    rw [manyL_end]; split <;> omega
  ·split
   ·rcases h2 with h2 | h2
    ·exact Or.inl h2
    ·refine Or.inr ?_
     show 600 < if 1 < s.now.length then s.many + s.now.length else s.many
     split <;> omega
   ·exact h2
 ·have hp2 : s.k % 2 = d.at' % 2 := by rw [h.k]; exact mod2 he _
  have hm : (if s.k % 2 = 0 then endW s else s).many = manyL (layD d).o := by
   show _ = manyL (endL d.o d.p false)
   rw [manyL_end, ← h.many, ← h.now]
   split
   ·rfl
   ·have := h.gap (by omega)
    rw [h.now, this]; rfl
  have hb : (if s.k % 2 = 0 then endW s else s).begun = d.begun := by
   split
   ·exact h.begun
   ·exact h.begun
  have b1 := h.b1
  by_cases h6 : manyL (layD d).o ≤ 600
  ·refine Or.inr ⟨?_, ?_, ?_⟩
   ·rintro (h | h)
    ·have : d.begun > 2400 := h; omega
    ·omega
   ·rintro (h | h)
    ·rw [hb] at h; omega
    ·rw [hm] at h; omega
   ·show _ = endL d.o d.p false
    have h7 : manyL (endL d.o d.p false) ≤ 600 := h6
    rw [manyL_end, ← h.many, ← h.now] at h7
    rw [← h.now, ← h.out]
    split
    ·show (if 1 < s.now.length ∧ s.many + s.now.length ≤ 600 then s.out ++ [⟨s.now, false⟩] else s.out) = _
     unfold endL
     by_cases h1 : 1 < s.now.length
     ·rw [if_pos h1] at h7
      rw [if_pos ⟨h1, h7⟩, if_pos h1]
     ·rw [if_neg (fun e => h1 e.1), if_neg h1]
    ·have := h.gap (by omega)
     rw [h.now, this]; rfl
  ·exact Or.inl ⟨Or.inr (by omega), Or.inr (by rw [hm]; omega)⟩
def segsW (ms : List Int) (s : Wk) (p : List Pnt) : Nat → Wk
 | 0 => s
 | k + 1 => segW ms (segsW ms s p k) (ptAt p k) (ptAt p (k + 1))
def twiceL (ns : List Int) : List Int := if ns.length % 2 = 1 then ns ++ ns else ns
def wk0 (ns : List Int) (f0 : Int) (q : Pnt) : Wk := ⟨skK ns f0 17 0 % (twiceL ns).length, sumR ns (skK ns f0 17 0 + 1) - f0, if skK ns f0 17 0 % (twiceL ns).length % 2 = 0 then [q] else [], [], 0, 0⟩
def wkS (ns : List Int) (f0 : Int) (p : List Pnt) (k : Nat) : Wk := segsW (twiceL ns) (wk0 ns f0 (ptAt p 0)) p k
def wk1 (ns : List Int) (f0 : Int) (p : List Pnt) (cl : Bool) : Wk := if cl then segW (twiceL ns) (wkS ns f0 p (p.length - 1)) (lastP p) (ptAt p 0) else wkS ns f0 p (p.length - 1)
def wk2 (ns : List Int) (f0 : Int) (p : List Pnt) (cl : Bool) : Wk := if (wk1 ns f0 p cl).k % 2 = 0 then endW (wk1 ns f0 p cl) else wk1 ns f0 p cl
theorem twice_len (ns : List Int) : (twiceL ns).length = rndL ns := by
 unfold twiceL rndL
 split <;> simp
theorem twice_is {ns : List Int} (h : 0 < ns.length) : Twice ns (twiceL ns) := by
 unfold twiceL
 by_cases ho : ns.length % 2 = 1
 ·rw [if_pos ho]
  refine ⟨by simp; omega, by simp; omega, fun j => ?_⟩
  have hl : (ns ++ ns).length = ns.length + ns.length := by simp
  rw [hl]
  have h1 : j % (ns.length + ns.length) < ns.length + ns.length := Nat.mod_lt _ (by omega)
  have h2 : j % (ns.length + ns.length) % ns.length = j % ns.length := Nat.mod_mod_of_dvd _ ⟨2, by omega⟩
  unfold intAt
  rw [← h2]
  generalize j % (ns.length + ns.length) = i at *
  by_cases hi : i < ns.length
  ·rw [Nat.mod_eq_of_lt hi, List.getD_eq_getElem?_getD, List.getD_eq_getElem?_getD, List.getElem?_append_left hi]
  ·have : i % ns.length = i - ns.length := by
    rw [Nat.mod_eq_sub_mod (by omega), Nat.mod_eq_of_lt (by omega)]
   rw [this, List.getD_eq_getElem?_getD, List.getD_eq_getElem?_getD, List.getElem?_append_right (by omega)]
 ·rw [if_neg ho]
  exact ⟨h, by omega, fun j => rfl⟩
theorem nb_nn {ns : List Int} (h : NB ns) (j : Nat) : 0 ≤ intAt ns (j % ns.length) := (h.2 _ (Nat.mod_lt _ h.1)).1
theorem segs_both {ns : List Int} (h : NB ns) (p : List Pnt) {d : Dg} {s : Wk} (hb : Both (twiceL ns) d s) : ∀ k, Both (twiceL ns) (segsD ns d p k) (segsW (twiceL ns) s p k)
 | 0 => hb
 | k + 1 => seg_both (twice_is h.1) (nb_nn h) _ _ (segs_both h p hb k)
theorem start_both {ns : List Int} (h : NB ns) (hl : ns.length ≤ 8) {f0 : Int} (h0 : 0 ≤ f0) (h1 : f0 < rndN ns) (q : Pnt) : Both (twiceL ns) (reachD (startD ns f0) q) (wk0 ns f0 q) := by
 have hrl : rndL ns ≤ 16 := by unfold rndL; split <;> omega
 have h17 : f0 < sumR ns (0 + 17) := by
  have := sumR_mono h (rndL ns) (17 - rndL ns)
  rw [show rndL ns + (17 - rndL ns) = 0 + 17 by omega, rnd_is] at this
  omega
 obtain ⟨g1, g2⟩ := skK_is h f0 17 0 (by simpa [sumR] using h0) h17
 have T := twice_is h.1
 unfold wk0 startD
 generalize skK ns f0 17 0 = k at *
 have hk2 : k % (twiceL ns).length % 2 = k % 2 := mod2 T.even k
 rw [hk2]
 obtain ⟨_, b2, b3, b4, b5⟩ := rD_bd (⟨k, sumR ns (k + 1) - f0, 0, [], []⟩ : Dg) q
 have hp : (reachD (⟨k, sumR ns (k + 1) - f0, 0, [], []⟩ : Dg) q).p = if k % 2 = 0 then [q] else [] := by
  unfold reachD skipB
  by_cases hk : k % 2 = 1
  ·rw [if_pos (by simp [hk]), if_neg (by omega)]
  ·rw [if_neg (by simp [hk]), if_pos (by omega)]; rfl
 refine Or.inr ⟨by rw [b3], by rw [b5], by rw [b5]; show 0 < sumR ns (k + 1) - f0; omega, hp.symm, by rw [b2], by rw [b2]; rfl, by rw [b4], fun g => ?_, by rw [b4]; show 0 ≤ 2400; omega, by rw [b2]; show manyL [] ≤ 600; decide⟩
 rw [b3] at g
 have g' : k % 2 = 1 := g
 rw [hp, if_neg (by omega)]
theorem all_both {ns : List Int} (h : NB ns) (hl : ns.length ≤ 8) {f0 : Int} (h0 : 0 ≤ f0) (h1 : f0 < rndN ns) (p : List Pnt) (cl : Bool) {d : Dg} (hd : d = layD (if cl then alongD ns (segsD ns (reachD (startD ns f0) (ptAt p 0)) p (p.length - 1)) (lastP p) (ptAt p 0) else segsD ns (reachD (startD ns f0) (ptAt p 0)) p (p.length - 1))) :
  (if 2400 < d.begun ∨ 600 < manyL d.o then (([], false) : List LD × Bool) else (d.o, true)) = if (wk2 ns f0 p cl).many ≤ 600 ∧ (wk2 ns f0 p cl).begun ≤ 2400 then ((wk2 ns f0 p cl).out, true) else ([], false) := by
 have T := twice_is h.1
 have e : Both (twiceL ns) (if cl then alongD ns (segsD ns (reachD (startD ns f0) (ptAt p 0)) p (p.length - 1)) (lastP p) (ptAt p 0) else segsD ns (reachD (startD ns f0) (ptAt p 0)) p (p.length - 1)) (wk1 ns f0 p cl) := by
  have := segs_both h p (start_both h hl h0 h1 (ptAt p 0)) (p.length - 1)
  unfold wk1 wkS
  cases cl with
  | true => exact seg_both T (nb_nn h) _ _ this
  | false => exact this
 have e2 := end_both T.even e
 rw [← hd] at e2
 change (badD d ∧ badW (wk2 ns f0 p cl)) ∨ (¬ badD d ∧ ¬ badW (wk2 ns f0 p cl) ∧ (wk2 ns f0 p cl).out = d.o) at e2
 rcases e2 with ⟨h3, h4⟩ | ⟨h3, h4, h5⟩
 ·unfold badD at h3
  rw [if_pos h3, if_neg]
  rintro ⟨h5, h6⟩
  rcases h4 with h4 | h4 <;> omega
 ·unfold badD at h3
  rw [if_neg h3, if_pos, h5]
  unfold badW at h4
  omega
end Go.Proofs.YtnkeljmecbohkaaGreat
