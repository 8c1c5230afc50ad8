/-
  Lines cut into dashes, by the reference: l10Dashed; each the
-/
import Derived.Test.YtnkeljmecbohkaaGreatJAS
import Derived.Deep.DeepCutAuto
import Derived.Deep.CutBlock
import Derived.Test.YtnkeljmecbohkaaGreatJAN
import Derived.Test.YtnkeljmecbohkaaGreatJAO
import Derived.Test.YtnkeljmecbohkaaGreatJAP
import Derived.Test.YtnkeljmecbohkaaGreatJAR
import Derived.Test.YtnkeljmecbohkaaGreatJAA
namespace Go.Proofs.YtnkeljmecbohkaaGreat
open Go.ChangeShapes Go.WideShapes Go.ChangeAt Go.RowKit
set_option linter.unusedVariables false
theorem twice_at {ns : List Int} (h : NB ns) : ∀ i, i < (twiceL ns).length → 0 ≤ intAt (twiceL ns) i ∧ intAt (twiceL ns) i ≤ 67108864 := fun i hi => by
 have := (twice_is h.1).same i
 rw [Nat.mod_eq_of_lt hi] at this
 rw [this]
 exact h.2 _ (Nat.mod_lt _ h.1)
theorem twice_sum {ns : List Int} (h : NB ns) : ∀ k, k ≤ (twiceL ns).length → sumN (twiceL ns) k = sumR ns k
 | 0, _ => rfl
 | k + 1, hk => by
  have e := (twice_is h.1).same k
  rw [Nat.mod_eq_of_lt (by omega)] at e
  show sumN (twiceL ns) k + intAt (twiceL ns) k = sumR ns k + intAt ns (k % ns.length)
  rw [twice_sum h k (by omega), e]
set_option maxRecDepth 100000 in
set_option maxHeartbeats 4000000 in
theorem sdashB (w : World) (g off pc : Nat) (p : List Pnt) (cl : Bool) (na : Option Addr) (nc : Nat) (ns : List Int) (f : Int) (h0 : 0 < p.length) (h6 : p.length ≤ 600) (hl : ns.length ≤ 8) (hb : ∀ i, i < ns.length → 0 ≤ intAt ns i) (hs : sumN ns ns.length = 0) (hL : LieP w g off p) (hI : Ints w na ns) :
  Calls Tryz.prog 39 #[.agg #[.slice (some ⟨g, off, none⟩) p.length pc, .bool cl], .slice na ns.length nc, .int .i64 f] w fun e w' => ∃ v, e = .returned (.tuple #[v, .bool true]) ∧ LsOk w' w.heap.size v [⟨p, cl⟩] ∧ Nw w w' := by
 obtain ⟨W1, hW1⟩ : ∃ W1, w.alloc (.cells #[.slice (some ⟨g, off, none⟩) p.length pc, .bool cl] 25) = W1 := ⟨_, rfl⟩
 have N1 : Hid (Nw w W1) := by show Nw _ _; rw [← hW1]; exact (Below.refl _ _).alloc (Nat.le_refl _) _
 have q0 : W1.cell? ⟨w.heap.size, 0, none⟩ = some (.slice (some ⟨g, off, none⟩) p.length pc) := by rw [← hW1, World.cell?_alloc_at _ _ _ _ rfl]; rfl
 have q1 : W1.cell? ⟨w.heap.size, 1, none⟩ = some (.bool cl) := by rw [← hW1, World.cell?_alloc_at _ _ _ _ rfl]; rfl
 have HW1 : Hid (_ = W1) := hW1
 have HA : Hid _ := sany W1 na nc ns hl (Ints.nw hI N1.out)
 rw [any_is hb, hs] at HA
 have HO : Hid _ := sown W1 g off pc p cl h0 (by omega) (LieP.nw hL N1.out)
 clear hW1 hL hI hb hs
 generalize p.length = np at *
 generalize ns.length = nn at *
 go_enter Tryz.func39, Tryz.ntmps39
 go_wp2_with fail
 rw [HW1.out]
 refine Calls.mono HA.out ?_
 rintro e w2 ⟨rfl, rfl⟩
 go_wp2_with fail
 refine Calls.mono HO.out ?_
 rintro e w3 ⟨u, rfl, o3, n3⟩
 obtain ⟨ua, un, uc, rfl⟩ := OwnQ.slice o3
 have OL := one_ln cl o3 (Below.size n3)
 have N9 : Hid (Nw w (w3.alloc (.cells #[.slice ua un uc, .bool cl] 25))) := Nw.trans N1.out (Nw.trans n3 ((Below.refl _ _).alloc (Nat.le_refl _) _))
 have O9 : Hid (LsOk (w3.alloc (.cells #[.slice ua un uc, .bool cl] 25)) w.heap.size (.slice (some ⟨w3.heap.size, 0, none⟩) 1 1) [⟨p, cl⟩]) := LsOk.of (OwnLn.base OL (Below.size N1.out)) rfl
 clear OL o3 n3 q0 q1
 go_wp2
 go_ret2
 exact ⟨_, rfl, O9.out, N9.out⟩
set_option maxRecDepth 100000 in
set_option maxHeartbeats 16000000 in
theorem sdashC (w : World) (g off pc : Nat) (p : List Pnt) (cl : Bool) (na : Option Addr) (nc : Nat) (ns : List Int) (f : Int) (h0 : 0 < p.length) (h6 : p.length ≤ 600) (hne : nearsB p = true) (hl : ns.length ≤ 8) (hnb : NB ns) (hf0 : 0 ≤ f) (hf1 : f ≤ 67108864) (hs : sumN ns ns.length ≠ 0) (hL : LieP w g off p) (hI : Ints w na ns) :
  Calls Tryz.prog 39 #[.agg #[.slice (some ⟨g, off, none⟩) p.length pc, .bool cl], .slice na ns.length nc, .int .i64 f] w fun e w' => ∃ v, e = .returned (.tuple #[v, .bool (decide ((wk2 ns (f % rndN ns) p cl).many ≤ 600 ∧ (wk2 ns (f % rndN ns) p cl).begun ≤ 2400))]) ∧ LsOk w' w.heap.size v (wk2 ns (f % rndN ns) p cl).out ∧ Nw w w' := by
 obtain ⟨W1, hW1⟩ : ∃ W1, w.alloc (.cells #[.slice (some ⟨g, off, none⟩) p.length pc, .bool cl] 25) = W1 := ⟨_, rfl⟩
 have N1 : Hid (Nw w W1) := by show Nw _ _; rw [← hW1]; exact (Below.refl _ _).alloc (Nat.le_refl _) _
 have q0 : W1.cell? ⟨w.heap.size, 0, none⟩ = some (.slice (some ⟨g, off, none⟩) p.length pc) := by rw [← hW1, World.cell?_alloc_at _ _ _ _ rfl]; rfl
 have q1 : W1.cell? ⟨w.heap.size, 1, none⟩ = some (.bool cl) := by rw [← hW1, World.cell?_alloc_at _ _ _ _ rfl]; rfl
 have LB := World.block_lt_of_cell? W1 ⟨w.heap.size, 0, none⟩ q0
 have CBL : Hid (∀ w', Nw W1 w' → w'.cell? ⟨w.heap.size, 0, none⟩ = some (.slice (some ⟨g, off, none⟩) p.length pc) ∧ w'.cell? ⟨w.heap.size, 1, none⟩ = some (.bool cl)) := fun w' k => ⟨((bcell k).1 _ _ LB).trans q0, ((bcell k).1 _ _ LB).trans q1⟩
 have CPT : Hid (∀ w', Nw W1 w' → ∀ j, j < p.length → w'.cell? ⟨g, off + j * 2, none⟩ = some (.int .i64 (ptAt p j).1) ∧ w'.cell? ⟨g, off + j * 2 + 1, none⟩ = some (.int .i64 (ptAt p j).2)) := fun w' k j hj => (LieP.nw hL (Nw.trans N1.out k)).2 j hj
 have HW1 : Hid (_ = W1) := hW1
 have HA : Hid _ := sany W1 na nc ns hl (Ints.nw hI N1.out)
 rw [any_is (fun i hi => (hnb.2 i hi).1), decide_eq_false hs] at HA
 obtain ⟨nb, no, hna, hcx⟩ : ∃ nb no, na = some ⟨nb, no, none⟩ ∧ ∀ w', Nw W1 w' → ∀ i, i < ns.length → w'.cell? ⟨nb, no + i, none⟩ = some (.int .i64 (intAt ns i)) := by
  rcases hI with hx | ⟨b, off, rfl, hbb, hc⟩
  ·have := hnb.1; rw [hx] at this; simp at this
  ·exact ⟨b, off, rfl, fun w' k i hi => ((bcell (Nw.trans N1.out k)).1 _ _ hbb).trans (hc i hi)⟩
 subst hna
 have HCX : Hid _ := hcx
 have HI1 : Hid (Ints W1 (some ⟨nb, no, none⟩) ns) := Ints.nw hI N1.out
 obtain ⟨ms, hms⟩ : ∃ ms, twiceL ns = ms := ⟨_, rfl⟩
 have HMS : Hid (twiceL ns = ms) := hms
 have hml : ms.length = rndL ns := by rw [← hms]; exact twice_len ns
 have hm16 : ms.length ≤ 16 := by rw [hml]; unfold rndL; split <;> omega
 have HML : Hid (∀ i, i < ms.length → 0 ≤ intAt ms i ∧ intAt ms i ≤ 67108864) := by rw [← hms]; exact twice_at hnb
 have hmp : 0 < ms.length := by rw [← hms]; exact (twice_is hnb.1).pos
 have HNE : Hid (nearsB p = true) := hne
 have HNB : Hid (NB ns) := hnb
 have HSN : Hid (sumN ns ns.length ≠ 0) := hs
 have HW : Hid (wk2 ns (f % rndN ns) p cl = wk2 ns (f % rndN ns) p cl) := rfl
 obtain ⟨RES, hRES⟩ : ∃ RES, wk2 ns (f % rndN ns) p cl = RES := ⟨_, rfl⟩
 have HRES : Hid (wk2 ns (f % rndN ns) p cl = RES) := hRES
 rw [hRES]
 have hnl : 0 < ns.length := hnb.1
 clear hW1 hL hI hcx hne hnb hs HW hRES q0 q1 LB hml
 generalize hnp : p.length = np at *
 have HNP : Hid (p.length = np) := hnp
 generalize hnn : ns.length = nn at *
 have HNN : Hid (ns.length = nn) := hnn
 generalize hmm : ms.length = m at *
 have HM : Hid (ms.length = m) := hmm
 clear hnp hnn hmm
 go_enter Tryz.func39, Tryz.ntmps39
 go_wp2_with fail
 rw [HW1.out]
 refine Calls.mono HA.out ?_
 rintro e w2 ⟨rfl, rfl⟩
 go_upto_if 22 with fail
 go_cut [1] (fun v wx => ∃ mb mo mc, v = .slice (some ⟨mb, mo, none⟩) m mc ∧ Ints wx (some ⟨mb, mo, none⟩) ms ∧ Nw w2 wx)
 case first =>
  by_cases hodd : nn % 2 = 1
  ·have ho1 : ((nn : Int) % 2 == 1) = true := by
    have : (nn : Int) % 2 = 1 := by omega
    rw [this]; rfl
   have hms2 : ms = ns ++ ns := by rw [← HMS.out]; unfold twiceL; rw [HNN.out, if_pos hodd]
   have n1 : Nw w2 (w2.alloc (.cells #[] 3)) := (Below.refl _ _).alloc (Nat.le_refl _) _
   have HO1 : Hid (Ins (w2.alloc (.cells #[] 3)) w2.heap.size (.slice (some ⟨w2.heap.size, 0, none⟩) 0 0) []) := World.ownsRow_lit w2 #[] 0 (Nat.le_refl _) (by unfold maxLen; omega) (by simp)
   have NN1 : Hid (Nw w2 (w2.alloc (.cells #[] 3))) := n1
   clear hodd n1
   go_wp2_with (at_builtin; (refine wp_inz (w2.alloc (.cells #[] 3)) rfl (.tmp 23) (.tmp 24) rfl w2.heap.size (.slice (some ⟨w2.heap.size, 0, none⟩) 0 0) [] ns rfl HO1.out nb no nn nc HNN.out rfl (fun i hi => HCX.out _ NN1.out i (by rw [HNN.out] at hi; exact hi)) (by simp; omega) (by simp) ?_))
   intro v1 w3 h3 x3
   have N3 : Hid (Nw w2 w3) := Below.trans NN1.out (Ins.below HO1.out x3 (by simp))
   have H3 : Hid (Ins w3 w2.heap.size v1 ns) := h3
   clear h3 x3
   go_wp2_with (at_builtin; (refine wp_inz w3 rfl (.tmp 25) (.tmp 26) rfl w2.heap.size v1 ns ns rfl H3.out nb no nn nc HNN.out rfl (fun i hi => HCX.out _ N3.out i (by rw [HNN.out] at hi; exact hi)) (by rw [HNN.out]; omega) (Below.size N3.out) ?_))
   intro v2 w4 h4 x4
   have N4 : Hid (Nw w2 w4) := Below.trans N3.out (Ins.below H3.out x4 (Below.size N3.out))
   rw [← hms2] at h4
   obtain ⟨gb, gc, hv2, hi2⟩ := Ins.ints h4 (by rw [HM.out]; omega)
   rw [HM.out] at hv2
   subst hv2
   have H4 : Hid (Ints w4 (some ⟨gb, 0, none⟩) ms) := hi2
   clear h4 x4 hi2
   go_wp2
   go_meet
   exact ⟨gb, 0, gc, rfl, H4.out, N4.out⟩
  ·have ho1 : ((nn : Int) % 2 == 1) = false := by
    have : (nn : Int) % 2 = 0 := by omega
    rw [this]; rfl
   have hms2 : ms = ns := by rw [← HMS.out]; unfold twiceL; rw [HNN.out, if_neg hodd]
   have hmn : nn = m := by rw [← HM.out, ← HNN.out, hms2]
   have H4 : Hid (Ints w2 (some ⟨nb, no, none⟩) ms) := by rw [hms2]; exact HI1.out
   clear hodd hms2
   go_wp2
   go_meet
   exact ⟨nb, no, nc, by rw [hmn], H4.out, Below.refl _ _⟩
 case rest =>
  obtain ⟨mb, mo, mc, rfl, hi4, n4⟩ := hcut
  generalize hw4 : wc = w4 at *
  clear hw4
  have HI4 : Hid (Ints w4 (some ⟨mb, mo, none⟩) ms) := hi4
  have N4 : Hid (Nw w2 w4) := n4
  clear hi4 n4
  have hrn : Hid (sumN ms m = rndN ns) := by
   show _ = _
   rw [← HM.out, ← HMS.out, twice_sum HNB.out _ (Nat.le_refl _), twice_len, rnd_is]
  have hrp : 0 < rndN ns := by
   have := (sumN_bd HNB.out.2 ns.length (Nat.le_refl _)).1
   have h2 := HSN.out
   rw [← HNN.out] at h2
   unfold rndN
   split <;> omega
  have hrb : rndN ns ≤ 67108864 * 16 := by
   have := (sumN_bd HNB.out.2 ns.length (Nat.le_refl _)).2
   rw [HNN.out] at this
   unfold rndN
   rw [HNN.out]
   split <;> omega
  obtain ⟨f0, hf0'⟩ : ∃ f0, f % rndN ns = f0 := ⟨_, rfl⟩
  have HF0 : Hid (f % rndN ns = f0) := hf0'
  have hfa : 0 ≤ f0 := by rw [← hf0']; exact Int.emod_nonneg _ (by omega)
  have hfb : f0 < rndN ns := by rw [← hf0']; exact Int.emod_lt_of_pos _ hrp
  have htm : f.tmod (rndN ns) = f0 := by rw [Int.tmod_eq_emod_of_nonneg hf0]; exact hf0'
  have HLT : Hid (∀ j, sumR ns j ≤ f0 → j < m) := fun j hj => by
   rw [← HM.out, ← HMS.out, twice_len]
   exact sumR_lt HNB.out hj (by rw [rnd_is]; exact hfb)
  have HAT : Hid (∀ j, j < m → intAt ms j = intAt ns (j % ns.length)) := fun j hj => by
   have := (twice_is HNB.out.1).same j
   rw [HMS.out, HM.out, Nat.mod_eq_of_lt hj] at this
   exact this
  have HMC : Hid (∀ w', Nw w4 w' → ∀ i, i < m → w'.cell? ⟨mb, mo + i, none⟩ = some (.int .i64 (intAt ms i))) := fun w' k i hi => by
   rcases Ints.nw HI4.out k with e | ⟨b, o, e, _, hc⟩
   ·rw [e] at HM; have := HM.out; simp at this; omega
   ·injection e with e; injection e with e1 e2
    subst e1 e2
    exact hc i (by rw [HM.out]; exact hi)
  clear hf0'
  go_wp2
  go_loop [8, 30] (fun s i => ∃ k : Nat, k ≤ m ∧ i = .int .i64 (k : Int) ∧ s = .int .i64 (sumN ms k)) (fun _ i => m - (intOf i).toNat)
  case atStart => exact ⟨0, Nat.zero_le _, rfl, rfl⟩
  case round =>
   obtain ⟨k, hk, rfl, rfl⟩ := hrel
   by_cases hlt : k < m
   ·have q := HMC.out w4 (Below.refl _ _) k hlt
    obtain ⟨b1, b2⟩ := sumN_bd (fun i hi => HML.out i (by rw [HM.out] at hi; exact hi)) k (by rw [HM.out]; exact hk)
    obtain ⟨b3, b4⟩ := HML.out k hlt
    have HS : Hid (sumN ms (k + 1) = sumN ms k + intAt ms k) := rfl
    generalize intAt ms k = x at *
    generalize hs : sumN ms k = s at *
    clear hs
    have hw : IntKind.i64.wrap (s + x) = s + x := IntWalk.i64_in _ ⟨by omega, by omega⟩
    go_wp2
    go_round
    case rel => exact ⟨k + 1, by omega, by go_num, by rw [HS.out]⟩
    case measure => simp [intOf]; omega
   ·have hkm : m = k := by omega
    subst hkm
    have hz0 : ¬ rndN ns = 0 := by omega
    rw [hrn.out]
    obtain ⟨x0, hx0⟩ : ∃ x0, intAt ms 0 = x0 := ⟨_, rfl⟩
    have q := HMC.out w4 (Below.refl _ _) 0 hmp
    rw [hx0, Nat.add_zero] at q
    have HX0 : Hid (intAt ms 0 = x0) := hx0
    obtain ⟨bd, hbd⟩ : ∃ bd, w4.heap.size = bd := ⟨_, rfl⟩
    obtain ⟨W5, hW5⟩ : ∃ W5, w4.alloc (.cells #[.slice (some ⟨mb, mo, none⟩) m mc, .int .i64 0, .int .i64 x0, .slice none 0 0, .slice none 0 0, .int .i64 0, .int .i64 0] 100) = W5 := ⟨_, rfl⟩
    have h5 := WhS.new w4 (some ⟨mb, mo, none⟩) mc ms x0 100
    rw [HM.out, hW5, hbd] at h5
    have H5 : Hid (WhS bd w4 W5 [] (some ⟨mb, mo, none⟩) mc ms ⟨0, x0, [], [], 0, 0⟩) := h5
    have HW5 : Hid (_ = W5) := hW5
    have HBD : Hid (w4.heap.size = bd) := hbd
    clear hlt hk hx0 hbd hW5 h5
    generalize hRN : rndN ns = rn at *
    go_upto_block 2 with fail
    rw [HW5.out, HBD.out]
    go_cut [] (fun wx => ∃ j, sumR ns j ≤ f0 ∧ f0 < sumR ns (j + 1) ∧ WhS bd w4 wx [] (some ⟨mb, mo, none⟩) mc ms ⟨j, sumR ns (j + 1) - f0, [], [], 0, 0⟩)
    case first =>
     go_wp2
     go_loopw [2] (fun fr wr => ∃ j : Nat, fr = .int .i64 (f0 - sumR ns j) ∧ sumR ns j ≤ f0 ∧ WhS bd w4 wr [] (some ⟨mb, mo, none⟩) mc ms ⟨j, intAt ms j, [], [], 0, 0⟩) (fun _ wr => 100 - (intOf ((wr.cell? ⟨bd, 1, none⟩).getD undef)).toNat)
     case atStart => exact ⟨0, by simp [sumR], by simpa [sumR] using hfa, by rw [HX0.out]; exact H5.out⟩
     case round =>
      obtain ⟨j, rfl, hj1, hj2⟩ := hrel
      have HJ : Hid (WhS bd w4 wr [] (some ⟨mb, mo, none⟩) mc ms ⟨j, intAt ms j, [], [], 0, 0⟩) := hj2
      have hjm := HLT.out j hj1
      have HSS : Hid (sumR ns (j + 1) = sumR ns j + intAt ms j) := by show _ = _; rw [HAT.out j hjm]; rfl
      obtain ⟨x1, x2⟩ := HML.out j hjm
      obtain ⟨v, it, u, dh, ho, nj, kj⟩ := hj2
      simp only at dh ho
      have c1 := dh.c1
      have c2 := dh.c2
      have fr := dh.free
      have DJ : Hid _ := dh
      have HO : Hid (it.map (·.2) = []) := ho
      have NJ : Hid (Nw w4 wr) := nj
      have KJ : Hid (Kb bd wr v it u []) := kj
      have HC1 : Hid _ := c1
      have hsn := sumR_nn HNB.out j
      clear dh ho nj kj
      generalize hx : intAt ms j = x at *
      generalize hs : sumR ns j = s at *
      have HX : Hid (intAt ms j = x) := hx
      have HS : Hid (sumR ns j = s) := hs
      clear hx hs
      generalize hF : f0 - s = F at *
      have HFF : Hid (f0 - s = F) := hF
      have hF0 : 0 ≤ F := by omega
      have hF1 : F ≤ 2147483648 := by omega
      have hw1 : IntKind.i64.wrap (F - x) = F - x := IntWalk.i64_in _ ⟨by omega, by omega⟩
      have hw2 : IntKind.i64.wrap (x - F) = x - F := IntWalk.i64_in _ ⟨by omega, by omega⟩
      clear hF
      by_cases hlt2 : F < x
      ·have dl : decide (F < x) = true := decide_eq_true hlt2
       have HE : Hid (sumR ns j ≤ f0 ∧ f0 < sumR ns (j + 1)) := by show _ ∧ _; rw [HSS.out, HS.out]; have := HFF.out; omega
       by_cases hz : F = 0
       ·have dz : decide (0 < F) = false := by simp; omega
        have dx : (x == 0) = false := by simp; omega
        have HR : Hid (WhS bd w4 wr [] (some ⟨mb, mo, none⟩) mc ms ⟨j, sumR ns (j + 1) - f0, [], [], 0, 0⟩) := by
         have e : sumR ns (j + 1) - f0 = x := by rw [HSS.out]; have := HFF.out; omega
         rw [e]; exact HJ.out
        clear hz hlt2
        go_wp2
        go_meet
        exact ⟨j, HE.out.1, HE.out.2, HR.out⟩
       ·have dz : decide (0 < F) = true := by simp; omega
        obtain ⟨s1, s2⟩ := WH.setL DJ.out (x - F)
        have HR : Hid (WhS bd w4 (wr.setCell ⟨bd, 2, none⟩ (.int .i64 (x - F))) [] (some ⟨mb, mo, none⟩) mc ms ⟨j, sumR ns (j + 1) - f0, [], [], 0, 0⟩) :=
         WhS.of s1 HO.out (Below.trans NJ.out (Below.mono s2 (by rw [HBD.out]; exact Nat.le_refl _))) rfl (by show _ = sumR ns (j + 1) - f0; rw [HSS.out]; have := HFF.out; omega) rfl rfl rfl (Kb.set KJ.out 2 _)
        clear hz hlt2 s1 s2
        go_wp2
        go_meet
        exact ⟨j, HE.out.1, HE.out.2, HR.out⟩
      ·have dl : decide (F < x) = false := decide_eq_false hlt2
       have hways : decide (0 < F) = true ∨ (decide (0 < F) = false ∧ (x == 0) = true) := by
        by_cases hz : 0 < F
        ·exact Or.inl (decide_eq_true hz)
        ·exact Or.inr ⟨decide_eq_false hz, by simp; omega⟩
       have H1 : Hid (sumR ns (j + 1) ≤ f0) := by show _ ≤ _; rw [HSS.out]; have := HFF.out; omega
       have hj1m := HLT.out (j + 1) H1.out
       obtain ⟨x', hx'⟩ : ∃ x', intAt ms (j + 1) = x' := ⟨_, rfl⟩
       have HX' : Hid (intAt ms (j + 1) = x') := hx'
       obtain ⟨s1, s2⟩ := WH.setK DJ.out ((j : Int) + 1)
       obtain ⟨t1, t2⟩ := WH.setL s1 x'
       have NJ2 : Hid (Nw w4 (wr.setCell ⟨bd, 1, none⟩ (.int .i64 ((j : Int) + 1)))) := Below.trans NJ.out (Below.mono s2 (by rw [HBD.out]; exact Nat.le_refl _))
       have HR : Hid (WhS bd w4 ((wr.setCell ⟨bd, 1, none⟩ (.int .i64 ((j : Int) + 1))).setCell ⟨bd, 2, none⟩ (.int .i64 x')) [] (some ⟨mb, mo, none⟩) mc ms ⟨j + 1, intAt ms (j + 1), [], [], 0, 0⟩) :=
        WhS.of t1 HO.out (Below.trans NJ2.out (Below.mono t2 (by rw [HBD.out]; exact Nat.le_refl _))) (by show (j : Int) + 1 = ((j + 1 : Nat) : Int); omega) (by show x' = intAt ms (j + 1); exact HX'.out.symm) rfl rfl rfl (Kb.set (Kb.set KJ.out 1 _) 2 _)
       have q := HMC.out _ NJ2.out (j + 1) hj1m
       rw [hx'] at q
       have g1 := s1.c1
       have g2 := s1.c2
       have gf := s1.free
       have hrem : ((j : Int) + 1) % (m : Int) = (j : Int) + 1 := Int.emod_eq_of_lt (by omega) (by omega)
       have hm0 : ¬ m = 0 := by omega
       have HC6 : Hid (((wr.setCell ⟨bd, 1, none⟩ (.int .i64 ((j : Int) + 1))).setCell ⟨bd, 2, none⟩ (.int .i64 x')).cell? ⟨bd, 1, none⟩ = some (.int .i64 ((j : Int) + 1))) := t1.c1
       clear hx' s1 s2 t1 t2 hlt2
       rcases hways with d1 | ⟨d1, d2⟩
       all_goals
        go_wp2
        go_roundw
        case rel => exact ⟨j + 1, by rw [HSS.out]; congr 1; have := HFF.out; omega, H1.out, HR.out⟩
        case measure => rw [HC6.out, HC1.out]; simp [intOf]; omega
    case rest =>
     obtain ⟨j, hja, hjb, hj5⟩ := hcut
     have hjm := HLT.out j hja
     have hj : j = skK ns f0 17 0 := by
      have hrl : rndL ns ≤ 16 := by unfold rndL; rw [HNN.out]; split <;> omega
      have h17 : f0 < sumR ns (0 + 17) := by
       have := sumR_mono HNB.out (rndL ns) (17 - rndL ns)
       rw [show rndL ns + (17 - rndL ns) = 0 + 17 by omega, rnd_is, hRN] at this
       omega
      obtain ⟨g1, g2⟩ := skK_is HNB.out f0 17 0 (by simpa [sumR] using hfa) h17
      have := sumR_lt HNB.out hja g2
      have := sumR_lt HNB.out g1 hjb
      omega
     obtain ⟨L, hLL⟩ : ∃ L, sumR ns (j + 1) - f0 = L := ⟨_, rfl⟩
     have hstep := sumR_step HNB.out j
     have hL0 : 0 < L := by omega
     have hL1 : L ≤ 67108864 := by omega
     rw [hLL] at hj5
     obtain ⟨px, hpx⟩ : ∃ px, (ptAt p 0).1 = px := ⟨_, rfl⟩
     obtain ⟨py, hpy⟩ : ∃ py, (ptAt p 0).2 = py := ⟨_, rfl⟩
     have HP0 : Hid (ptAt p 0 = (px, py)) := by show _ = _; rw [← hpx, ← hpy]
     have HS0 : Hid (wk0 ns f0 (ptAt p 0) = ⟨j, L, if j % 2 = 0 then [(px, py)] else [], [], 0, 0⟩) := by
      show _ = _
      unfold wk0
      rw [HMS.out, HM.out, ← hj, Nat.mod_eq_of_lt hjm, hLL, HP0.out]
     have H6 : Hid (WhS bd w4 wc [] (some ⟨mb, mo, none⟩) mc ms ⟨j, L, [], [], 0, 0⟩) := hj5
     obtain ⟨v, it, u, dh, ho, n6, k6⟩ := hj5
     simp only at dh ho
     have c1 := dh.c1
     have D6 : Hid _ := dh
     have HO6 : Hid (it.map (·.2) = []) := ho
     have N6 : Hid (Nw w4 wc) := n6
     have K6 : Hid (Kb bd wc v it u []) := k6
     obtain ⟨l0, _⟩ := CBL.out wc (Nw.trans N4.out n6)
     obtain ⟨p0, p1⟩ := CPT.out wc (Nw.trans N4.out n6) 0 (by omega)
     simp only [Nat.zero_mul, Nat.add_zero] at p0 p1
     rw [hpx] at p0
     rw [hpy] at p1
     clear dh ho n6 k6 hpx hpy hstep hLL hj hja hjb q H5 HX0
     go_upto_if 102 with fail
     go_cut [] (fun wx => WhS bd w4 wx [] (some ⟨mb, mo, none⟩) mc ms (wk0 ns f0 (ptAt p 0)))
     case first =>
      by_cases hj2 : j % 2 = 0
      ·have hjq : ((j : Int) % 2 == 0) = true := by
        have : (j : Int) % 2 = 0 := by omega
        rw [this]; rfl
       rw [if_pos hj2] at HS0
       obtain ⟨r1, r2⟩ := WH.fresh D6.out px py
       have R1 : Hid (WhS bd w4 ((wc.alloc (.cells #[.int .i64 px, .int .i64 py] 34)).setCell ⟨bd, 3, none⟩ (.slice (some ⟨wc.heap.size, 0, none⟩) 1 1)) [] (some ⟨mb, mo, none⟩) mc ms ⟨j, L, [(px, py)], [], 0, 0⟩) := WhS.of r1 HO6.out (Below.trans N6.out (Below.mono r2 (by rw [HBD.out]; exact Nat.le_refl _))) rfl rfl rfl rfl rfl (Kb.fresh K6.out px py 34)
       have S8 := WH.nw D6.out ((Below.refl _ _).alloc (Nat.le_refl _) _ : Nw wc (wc.alloc (.cells #[.int .i64 px, .int .i64 py] 34)))
       have g3 := S8.c3
       have gf := S8.free
       have hnp0 : 0 < np := h0
       clear hj2 r1 r2 S8
       go_wp2
       go_meet
       rw [HS0.out]
       exact R1.out
      ·have hjq : ((j : Int) % 2 == 0) = false := by
        have : (j : Int) % 2 = 1 := by omega
        rw [this]; rfl
       rw [if_neg hj2] at HS0
       clear hj2
       go_wp2
       go_meet
       rw [HS0.out]
       exact H6.out
     case rest =>
      have H7 : Hid (WhS bd w4 wc [] (some ⟨mb, mo, none⟩) mc ms (wk0 ns f0 (ptAt p 0))) := hcut
      have HB7 : Hid (WB ms 1 (wk0 ns f0 (ptAt p 0)) ∧ okW (wk0 ns f0 (ptAt p 0))) := by
       show _ ∧ _
       rw [HS0.out]
       refine ⟨⟨by show j < _; rw [HM.out]; exact hjm, by show 0 ≤ 0; omega, by show 0 ≤ 2401; omega, ?_, by show _ ≤ L; omega, hL1⟩, Or.inl (by show 0 ≤ L; omega)⟩
       show 0 + (if j % 2 = 0 then [(px, py)] else []).length ≤ 2 * 0 + 1
       split <;> simp
      generalize hs0 : wk0 ns f0 (ptAt p 0) = s0 at *
      have HWS0 : Hid (wk0 ns f0 (ptAt p 0) = s0) := hs0
      clear hcut hs0 c1 l0 p0 p1 D6 H6 HO6 N6 K6
      have hbb : w4.heap.size ≤ bd := by rw [HBD.out]; exact Nat.le_refl _
      go_wp2
      go_loopw [12] (fun i wr => ∃ j1 : Nat, 1 ≤ j1 ∧ j1 ≤ np ∧ i = .int .i64 (j1 : Int) ∧ WhS bd w4 wr [] (some ⟨mb, mo, none⟩) mc ms (segsW ms s0 p (j1 - 1)) ∧ WB ms j1 (segsW ms s0 p (j1 - 1)) ∧ okW (segsW ms s0 p (j1 - 1))) (fun i _ => np - (intOf i).toNat)
      case atStart => exact ⟨1, by omega, by omega, rfl, H7.out, HB7.out.1, HB7.out.2⟩
      case round =>
       obtain ⟨j1, hj1, hj2, rfl, hd, hb, hok⟩ := hrel
       have HD : Hid (WhS bd w4 wr [] (some ⟨mb, mo, none⟩) mc ms (segsW ms s0 p (j1 - 1))) := hd
       have HB : Hid (WB ms j1 (segsW ms s0 p (j1 - 1)) ∧ okW (segsW ms s0 p (j1 - 1))) := ⟨hb, hok⟩
       obtain ⟨_, _, _, _, _, nj, _⟩ := hd
       have NJ : Hid (Nw w2 wr) := Nw.trans N4.out nj
       obtain ⟨l0, l1⟩ := CBL.out wr NJ.out
       clear nj hb hok
       by_cases hlt : j1 < np
       ·obtain ⟨r0, r1⟩ := CPT.out wr NJ.out (j1 - 1) (by omega)
        obtain ⟨r2, r3⟩ := CPT.out wr NJ.out j1 hlt
        have HNJ : Hid (nearB (ptAt p (j1 - 1)) = true ∧ nearB (ptAt p j1) = true) := ⟨nearsB_at HNE.out (j1 - 1) (by rw [HNP.out]; omega), nearsB_at HNE.out j1 (by rw [HNP.out]; omega)⟩
        have HSG : Hid (segsW ms s0 p (j1 + 1 - 1) = segW ms (segsW ms s0 p (j1 - 1)) (ptAt p (j1 - 1)) (ptAt p j1)) := by
         show _ = _
         rw [show j1 + 1 - 1 = (j1 - 1) + 1 by omega, segsW, show j1 - 1 + 1 = j1 by omega]
        generalize hq1 : ptAt p (j1 - 1) = qh at *
        generalize hq2 : ptAt p j1 = qn at *
        obtain ⟨hx, hy⟩ := qh
        obtain ⟨nx, ny⟩ := qn
        simp only at r0 r1 r2 r3
        have HSEG : Hid _ := sseg w4 wr.drew bd [] (some ⟨mb, mo, none⟩) mc ms (segsW ms s0 p (j1 - 1)) hx hy nx ny j1 hbb HNJ.out.1 HNJ.out.2 HI4.out (fun i hi => HML.out i (by rw [HM.out] at hi; exact hi)) (by rw [HM.out]; exact hm16) (by omega) HB.out.1 HB.out.2 (WhS.nw HD.out ((Below.refl _ _).drew))
        rw [← HSG.out] at HSEG
        have wi : IntKind.i64.wrap ((j1 : Int) - 1) = ((j1 - 1 : Nat) : Int) := by rw [IntWalk.i64_in _ ⟨by omega, by omega⟩]; omega
        have hil : j1 - 1 < np := by omega
        have R4 : Hid _ := And.intro (And.intro r0 r1) (And.intro r2 r3)
        have L0 : Hid _ := l0
        clear hq1 hq2 r0 r1 r2 r3 l1
        generalize j1 - 1 = j at *
        go_wp2
        refine reg_change (ops' := opsOf 25 Tryz.f39) (by kernel_rfl) ?_
        refine DW25.run ⟨w.heap.size, bd, g, off, np, pc, j, j1, hx, hy, nx, ny, fun w' => WhS bd w4 w' [] (some ⟨mb, mo, none⟩) mc ms (segsW ms s0 p (j1 + 1 - 1)) ∧ WB ms (j1 + 1) (segsW ms s0 p (j1 + 1 - 1)) ∧ okW (segsW ms s0 p (j1 + 1 - 1)), wr.drew, _⟩ ⟨L0.out, wi, hil, hlt, R4.out.1.1, R4.out.1.2, R4.out.2.1, R4.out.2.2, HSEG.out, rfl, rfl, rfl, rfl⟩ wr rfl ?_
        rintro γ w9 ⟨h9, b9, o9⟩
        have H9 : Hid (WhS bd w4 w9 [] (some ⟨mb, mo, none⟩) mc ms (segsW ms s0 p (j1 + 1 - 1))) := h9
        have B9 : Hid (WB ms (j1 + 1) (segsW ms s0 p (j1 + 1 - 1)) ∧ okW (segsW ms s0 p (j1 + 1 - 1))) := ⟨b9, o9⟩
        clear h9 b9 o9 l0
        simp only [Act.put, List.setIfInBounds_toArray, List.set_cons_zero, List.set_cons_succ]
        go_wp2
        go_roundw
        case rel => exact ⟨j1 + 1, by omega, by omega, by go_num, H9.out, B9.out.1, B9.out.2⟩
        case measure => simp [intOf]; omega
       ·have hjn : j1 = np := by omega
        subst hjn
        have hdl : decide ((j1 : Int) < (j1 : Int)) = false := by simp
        clear hlt hj2
        obtain ⟨S1, hS1⟩ : ∃ S1, wk1 ns f0 p cl = S1 := ⟨_, rfl⟩
        have HS1 : Hid ((if cl then segW ms (segsW ms s0 p (j1 - 1)) (lastP p) (ptAt p 0) else segsW ms s0 p (j1 - 1)) = S1) := by
         show _ = _
         rw [← hS1]
         unfold wk1 wkS
         rw [HMS.out, HWS0.out, HNP.out]
        have HS2 : Hid ((if S1.k % 2 = 0 then endW S1 else S1) = RES) := by
         show _ = _
         rw [← HRES.out, HF0.out]
         unfold wk2
         rw [hS1]
        clear hS1
        go_upto_if 132 with fail
        go_cut [] (fun wx => WhS bd w4 wx [] (some ⟨mb, mo, none⟩) mc ms S1 ∧ WB ms (j1 + 1) S1)
        case first =>
         cases cl with
         | false =>
          have HX : Hid (WhS bd w4 wr [] (some ⟨mb, mo, none⟩) mc ms S1 ∧ WB ms (j1 + 1) S1) := by
           show _ ∧ _
           have e : segsW ms s0 p (j1 - 1) = S1 := HS1.out
           rw [← e]; exact ⟨HD.out, HB.out.1.more⟩
          go_wp2
          go_meet
          exact HX.out
         | true =>
          obtain ⟨r0, r1⟩ := CPT.out wr NJ.out (j1 - 1) (by omega)
          obtain ⟨r2, r3⟩ := CPT.out wr NJ.out 0 (by omega)
          simp only [Nat.zero_mul, Nat.add_zero] at r2 r3
          have HNJ : Hid (nearB (ptAt p (j1 - 1)) = true ∧ nearB (ptAt p 0) = true) := ⟨nearsB_at HNE.out (j1 - 1) (by rw [HNP.out]; omega), nearsB_at HNE.out 0 (by rw [HNP.out]; omega)⟩
          have HSG : Hid (segW ms (segsW ms s0 p (j1 - 1)) (ptAt p (j1 - 1)) (ptAt p 0) = S1) := by
           have e := HS1.out
           unfold lastP at e
           rw [HNP.out] at e
           exact e
          generalize hq1 : ptAt p (j1 - 1) = qh at *
          generalize hq2 : ptAt p 0 = qn at *
          obtain ⟨hx, hy⟩ := qh
          obtain ⟨nx, ny⟩ := qn
          simp only at r0 r1 r2 r3
          have HSEG : Hid _ := sseg w4 wr.drew bd [] (some ⟨mb, mo, none⟩) mc ms (segsW ms s0 p (j1 - 1)) hx hy nx ny j1 hbb HNJ.out.1 HNJ.out.2 HI4.out (fun i hi => HML.out i (by rw [HM.out] at hi; exact hi)) (by rw [HM.out]; exact hm16) (by omega) HB.out.1 HB.out.2 (WhS.nw HD.out ((Below.refl _ _).drew))
          rw [HSG.out] at HSEG
          have wi : IntKind.i64.wrap ((j1 : Int) - 1) = ((j1 - 1 : Nat) : Int) := by rw [IntWalk.i64_in _ ⟨by omega, by omega⟩]; omega
          have hil : j1 - 1 < j1 := by omega
          have R4 : Hid _ := And.intro (And.intro r0 r1) (And.intro r2 r3)
          have L0 : Hid _ := l0
          clear hq1 hq2 r0 r1 r2 r3
          go_wp2
          refine reg_change (ops' := opsOf 27 Tryz.f39) (by kernel_rfl) ?_
          refine DW27.run ⟨w.heap.size, bd, g, off, j1, pc, j1 - 1, hx, hy, nx, ny, fun w' => WhS bd w4 w' [] (some ⟨mb, mo, none⟩) mc ms S1 ∧ WB ms (j1 + 1) S1 ∧ okW S1, wr.drew, _⟩ ⟨L0.out, wi, hil, h0, R4.out.1.1, R4.out.1.2, R4.out.2.1, R4.out.2.2, HSEG.out, rfl, rfl, rfl⟩ wr rfl ?_
          rintro γ w9 ⟨h9, b9, o9⟩
          have H9 : Hid (WhS bd w4 w9 [] (some ⟨mb, mo, none⟩) mc ms S1 ∧ WB ms (j1 + 1) S1) := ⟨h9, b9⟩
          clear h9 b9 o9 l0
          simp only [Act.put, List.setIfInBounds_toArray, List.set_cons_zero, List.set_cons_succ]
          go_wp2
          go_meet
          exact H9.out
        case rest =>
         obtain ⟨ha, hb⟩ := hcut
         have HA9 : Hid (WhS bd w4 wc [] (some ⟨mb, mo, none⟩) mc ms S1) := ha
         have HB9 : Hid (WB ms (j1 + 1) S1) := hb
         obtain ⟨v, it, u, dh, _, _, _⟩ := ha
         have c1 := dh.c1
         clear dh hb
         go_upto_if 152 with fail
         go_cut [] (fun wx => WhS bd w4 wx [] (some ⟨mb, mo, none⟩) mc ms RES)
         case first =>
          have HEND : Hid _ := send w4 wc bd [] (some ⟨mb, mo, none⟩) mc ms S1 hbb (by have := HB9.out.ho; have := HB9.out.hb; omega) (by have := HB9.out.hm; have := HB9.out.hb; omega) HA9.out
          generalize hk1 : S1.k = k1 at *
          by_cases hk2 : k1 % 2 = 0
          ·have hkt : ((k1 : Int) % 2 == 0) = true := by
            have : (k1 : Int) % 2 = 0 := by omega
            rw [this]; rfl
           rw [if_pos hk2] at HS2
           rw [HS2.out] at HEND
           clear hk2 hk1
           go_wp2_with fail
           refine Calls.mono HEND.out ?_
           rintro e w11 ⟨rfl, h11⟩
           have H11 : Hid (WhS bd w4 w11 [] (some ⟨mb, mo, none⟩) mc ms RES) := h11
           clear h11
           go_wp2
           go_meet
           exact H11.out
          ·have hkt : ((k1 : Int) % 2 == 0) = false := by
            have : (k1 : Int) % 2 = 1 := by omega
            rw [this]; rfl
           rw [if_neg hk2] at HS2
           clear hk2 hk1
           go_wp2
           go_meet
           rw [← HS2.out]
           exact HA9.out
         case rest =>
          obtain ⟨v, it, u, dh, ho, nw, _⟩ := hcut
          obtain ⟨va, vc, hv⟩ := D2.vln dh.d
          subst hv
          have DD : Hid _ := WH.nw dh ((Below.refl _ _).drew : Nw wc wc.drew)
          have O13 : Hid (LsOk wc w.heap.size (.slice va it.length vc) RES.out) := LsOk.of (OwnLn.base dh.d.ln (by have := Below.size N1.out; have := Below.size N4.out; omega)) ho
          have N13 : Hid (Nw w wc) := Nw.trans N1.out (Nw.trans N4.out nw)
          clear dh ho nw c1
          generalize it.length = ni at *
          obtain ⟨RM, hRM⟩ : ∃ RM, RES.many = RM := ⟨_, rfl⟩
          obtain ⟨RB, hRB⟩ : ∃ RB, RES.begun = RB := ⟨_, rfl⟩
          rw [hRM, hRB] at DD
          have HRM : Hid (RES.many = RM) := hRM
          have HRB : Hid (RES.begun = RB) := hRB
          clear hRM hRB
          by_cases hm6 : RM ≤ 600
          ·have dm : decide ((RM : Int) ≤ 600) = true := by simp; omega
           obtain ⟨vb, hvb⟩ : ∃ vb, decide ((RB : Int) ≤ 2400) = vb := ⟨_, rfl⟩
           have HE : Hid (vb = decide (RES.many ≤ 600 ∧ RES.begun ≤ 2400)) := by
            show _ = _
            rw [← hvb, HRM.out, HRB.out, Bool.eq_iff_iff]
            simp; omega
           go_wp2
           refine reg_change (ops' := opsOf 30 Tryz.f39) (by kernel_rfl) ?_
           refine DWF.run ⟨bd, va, ni, vc, RM, RB, vb, wc.drew, _⟩ ⟨DD.out.c4, DD.out.c5, DD.out.c6, dm, hvb, rfl, rfl⟩ wc (Kp.refl _) ?_
           intro γ w14 k14
           have n14 : Nw wc w14 := (undrew k14).nw
           have O14 : Hid _ := LsOk.nw O13.out n14
           have N14 : Hid (Nw w w14) := Nw.trans N13.out n14
           clear k14 n14
           simp only [Act.put, List.setIfInBounds_toArray, List.set_cons_zero, List.set_cons_succ]
           go_wp2
           go_ret2
           exact ⟨.slice va ni vc, by rw [← HE.out]; rfl, O14.out, N14.out⟩
          ·have dm : decide ((RM : Int) ≤ 600) = false := by simp; omega
           have HE : Hid (decide (RES.many ≤ 600 ∧ RES.begun ≤ 2400) = false) := by
            show _ = _
            rw [HRM.out]
            simp; omega
           go_wp2
           refine reg_change (ops' := opsOf 30 Tryz.f39) (by kernel_rfl) ?_
           refine DWE.run ⟨bd, va, ni, vc, RM, RB, wc.drew, _⟩ ⟨DD.out.c4, DD.out.c5, dm, rfl, rfl⟩ wc (Kp.refl _) ?_
           intro γ w14 k14
           have n14 : Nw wc w14 := (undrew k14).nw
           have O14 : Hid _ := LsOk.nw O13.out n14
           have N14 : Hid (Nw w w14) := Nw.trans N13.out n14
           clear k14 n14
           simp only [Act.put, List.setIfInBounds_toArray, List.set_cons_zero, List.set_cons_succ]
           go_wp2
           go_ret2
           exact ⟨.slice va ni vc, by rw [HE.out]; rfl, O14.out, N14.out⟩
set_option maxRecDepth 100000 in
set_option maxHeartbeats 8000000 in
theorem idashC (w : World) (pa : Option Addr) (pc : Nat) (p : List Pnt) (cl : Bool) (na : Option Addr) (nc : Nat) (ns : List Int) (f : Int) (hp : p.length ≤ 1048576) (hn : ns.length ≤ 1048576) (hP : Pts w pa p) (hI : Ints w na ns) (hcap : p.length ≤ pc) (hin : dsIn ns f p = true) (hs : sumN ns ns.length ≠ 0) : Calls Tryz.prog 6 #[.agg #[.slice pa p.length pc, .bool cl], .slice na ns.length nc, .int .i64 f] w fun e w' => ∃ v, e = .returned (.tuple #[v, .bool (dsV ns f p cl).2]) ∧ LsOk w' w.heap.size v (dsV ns f p cl).1 ∧ Nw w w' := by
 have HV : Hid (dsV ns f p cl = if 2400 < (dash1 ns f p cl).begun ∨ 600 < manyL (dash1 ns f p cl).o then ([], false) else ((dash1 ns f p cl).o, true)) := by
  show _ = _
  unfold dsV
  rw [if_pos hin, if_neg hs]
 obtain ⟨W1, hW1⟩ : ∃ W1, w.alloc (.cells #[.slice pa p.length pc, .bool cl] 25) = W1 := ⟨_, rfl⟩
 have N1 : Hid (Nw w W1) := by show Nw _ _; rw [← hW1]; exact (Below.refl _ _).alloc (Nat.le_refl _) _
 have q0 : W1.cell? ⟨w.heap.size, 0, none⟩ = some (.slice pa p.length pc) := by rw [← hW1, World.cell?_alloc_at _ _ _ _ rfl]; rfl
 have q1 : W1.cell? ⟨w.heap.size, 1, none⟩ = some (.bool cl) := by rw [← hW1, World.cell?_alloc_at _ _ _ _ rfl]; rfl
 have HQ : Hid (W1.cell? ⟨w.heap.size, 0, none⟩ = some (.slice pa p.length pc) ∧ W1.cell? ⟨w.heap.size, 1, none⟩ = some (.bool cl)) := ⟨q0, q1⟩
 have LB : Hid (w.heap.size < W1.heap.size) := World.block_lt_of_cell? W1 ⟨w.heap.size, 0, none⟩ q0
 have HW1 : Hid (_ = W1) := hW1
 unfold dsIn at hin
 simp only [Bool.and_eq_true] at hin
 obtain ⟨i1, i2, i3⟩ := hin
 have i1' := of_decide_eq_true i1
 obtain ⟨z1, z2, z3⟩ := dsh_NB i3
 have hnn := sum_some hs
 have HNB : Hid (NB ns) := ⟨hnn, z3⟩
 have hsp : 0 < sumN ns ns.length := by have := (sumN_bd z3 ns.length (Nat.le_refl _)).1; omega
 have HNE : Hid (nearsB p = true) := i2
 have H1 : Hid (∀ w, Calls Tryz.prog 26 #[.int .i64 (p.length : Int), .int .i64 1, .int .i64 600] w fun e w' => e = .returned (.bool (decide ((1 : Int) ≤ (p.length : Int) ∧ (p.length : Int) ≤ 600))) ∧ w' = w) := fun w => iin_any w p.length 1 600
 have e1 : decide ((1 : Int) ≤ (p.length : Int) ∧ (p.length : Int) ≤ 600) = true := by simp; omega
 rw [e1] at H1
 have HN : Hid _ := inear W1 pa pc p hp (Pts.nw hP N1.out)
 rw [i2] at HN
 have HD : Hid (∀ w2, Nw W1 w2 → _) := fun w2 (k : Nw W1 w2) => igoodDash w2 na nc ns f hn (Ints.nw hI (Nw.trans N1.out k))
 rw [i3] at HD
 have HS : Hid (∀ w2, Nw W1 w2 → _) := fun w2 (k : Nw W1 w2) => isum w2 na nc ns z1 z3 (Ints.nw hI (Nw.trans N1.out k))
 obtain ⟨g, off, hpa, hlie⟩ := Pts.lie hP (by omega)
 subst hpa
 have HL : Hid (LieP w g off p) := hlie
 have HI : Hid (Ints w na ns) := hI
 obtain ⟨nb, no, hna, hnb, hx0⟩ : ∃ nb no, na = some ⟨nb, no, none⟩ ∧ nb < w.heap.size ∧ w.cell? ⟨nb, no, none⟩ = some (.int .i64 (intAt ns 0)) := by
  rcases hI with e | ⟨b, o, rfl, hb, hc⟩
  ·rw [e] at hnn; simp at hnn
  ·exact ⟨b, o, rfl, hb, hc 0 hnn⟩
 subst hna
 have HX0 : Hid (nb < w.heap.size ∧ w.cell? ⟨nb, no, none⟩ = some (.int .i64 (intAt ns 0))) := ⟨hnb, hx0⟩
 have hsz : (sumN ns ns.length == 0) = false := by simp [hs]
 have HSK : Hid (∀ (V W6 : World), Nw w V → DhS V.heap.size V W6 [] (some ⟨nb, no, none⟩) nc ns ⟨0, intAt ns 0, 0, [], []⟩ → _) := fun V W6 hv h6 => iskip V W6 V.heap.size [] (some ⟨nb, no, none⟩) nc ns f (Nat.le_refl _) z1 ⟨hnn, z3⟩ hsp z2.1 z2.2 (Ints.nw hI hv) h6
 have HDN : Hid (∀ V : World, DhS V.heap.size V (V.alloc (.cells #[.slice (some ⟨nb, no, none⟩) ns.length nc, .int .i64 0, .int .i64 (intAt ns 0), .int .i64 0, .slice none 0 0, .slice none 0 0] 67)) [] (some ⟨nb, no, none⟩) nc ns ⟨0, intAt ns 0, 0, [], []⟩) := fun V => DhS.new V _ nc ns _ _
 have HZ1 : Hid (ns.length ≤ 8) := z1
 have HSD : Hid (DB 0 (startD ns (f % rndN ns))) := by
  have hr : 0 < rndN ns := by unfold rndN; split <;> omega
  exact start_DB ⟨hnn, z3⟩ z1 (Int.emod_nonneg _ (by omega)) (Int.emod_lt_of_pos _ hr)
 clear e1 hW1 hP hI i1 i2 i3 z2 z3 hlie q1 hx0 hs hsp
 generalize intAt ns 0 = x0 at *
 generalize sumN ns ns.length = sn at *
 generalize hnp : p.length = np at *
 have HNP : Hid (p.length = np) := hnp
 clear hnp
 generalize hnl : ns.length = nn at *
 have HNN : Hid (ns.length = nn) := hnl
 clear hnl
 go_enter Tryz.func6, Tryz.ntmps6
 go_wp2_with fail
 rw [HW1.out]
 refine Calls.mono (H1.out _) ?_
 rintro e w2 ⟨rfl, rfl⟩
 go_wp2_with fail
 refine Calls.mono HN.out ?_
 rintro e w3 ⟨rfl, k3⟩
 have N3 : Hid (Nw w w3) := Nw.trans N1.out k3.nw
 have M3 : Hid (Nw w2 w3) := k3.nw
 have HD3 : Hid _ := HD.out w3 k3.nw
 have HS3 : Hid _ := HS.out w3 k3.nw
 clear k3
 go_wp2_with fail
 refine Calls.mono HD3.out ?_
 rintro e w4 ⟨rfl, rfl⟩
 go_wp2_with fail
 refine Calls.mono HS3.out ?_
 rintro e w5 ⟨rfl, rfl⟩
 clear q0
 have x5 := ((bcell N3.out).1 _ _ HX0.out.1).trans HX0.out.2
 have hbn := hnb
 go_wp2_with fail
 refine Calls.mono (HSK.out w5 _ N3.out (HDN.out w5)) ?_
 rintro e w7 ⟨rfl, h7⟩
 obtain ⟨bd, hbd⟩ : ∃ bd, w5.heap.size = bd := ⟨_, rfl⟩
 rw [hbd] at h7 ⊢
 have HBD : Hid (w5.heap.size = bd) := hbd
 have H7 : Hid (DhS bd w5 w7 [] (some ⟨nb, no, none⟩) nc ns (startD ns (f % rndN ns))) := h7
 have BL : Hid (w.heap.size < w5.heap.size) := Nat.lt_of_lt_of_le LB.out (Below.size M3.out)
 have CBL : Hid (∀ w', Nw w5 w' → w'.cell? ⟨w.heap.size, 0, none⟩ = some (.slice (some ⟨g, off, none⟩) np pc) ∧ w'.cell? ⟨w.heap.size, 1, none⟩ = some (.bool cl)) := fun w' k => ⟨((bcell k).1 _ _ BL.out).trans (((bcell M3.out).1 _ _ LB.out).trans HQ.out.1), ((bcell k).1 _ _ BL.out).trans (((bcell M3.out).1 _ _ LB.out).trans HQ.out.2)⟩
 have CPT : Hid (∀ w', Nw w5 w' → ∀ j, j < np → w'.cell? ⟨g, off + j * 2, none⟩ = some (.int .i64 (ptAt p j).1) ∧ w'.cell? ⟨g, off + j * 2 + 1, none⟩ = some (.int .i64 (ptAt p j).2)) := fun w' k j hj => (LieP.nw HL.out (Nw.trans N3.out k)).2 j (by rw [HNP.out]; exact hj)
 obtain ⟨_, _, _, _, _, n7, _⟩ := h7
 obtain ⟨l0, _⟩ := CBL.out w7 n7
 obtain ⟨p0, p1⟩ := CPT.out w7 n7 0 (by omega)
 simp only [Nat.zero_mul, Nat.add_zero] at p0 p1
 obtain ⟨px, hpx⟩ : ∃ px, (ptAt p 0).1 = px := ⟨_, rfl⟩
 obtain ⟨py, hpy⟩ : ∃ py, (ptAt p 0).2 = py := ⟨_, rfl⟩
 have HP0 : Hid (ptAt p 0 = (px, py)) := by show _ = _; rw [← hpx, ← hpy]
 rw [hpx] at p0
 rw [hpy] at p1
 obtain ⟨W8, hW8⟩ : ∃ W8, w7.alloc (.cells #[.int .i64 px, .int .i64 py] 34) = W8 := ⟨_, rfl⟩
 have h8 := DhS.box H7.out px py 34
 rw [hW8] at h8
 obtain ⟨bh, hbh⟩ : ∃ bh, w7.heap.size = bh := ⟨_, rfl⟩
 rw [hbh] at h8
 have HBH : Hid (w7.heap.size = bh) := hbh
 have H8 : Hid (DhS bd w5 W8 [(bh, px, py)] (some ⟨nb, no, none⟩) nc ns (startD ns (f % rndN ns))) := h8
 have HW8 : Hid (_ = W8) := hW8
 have HGE : Hid (w5.heap.size ≤ bh) := by show _ ≤ _; rw [← hbh]; exact Below.size n7
 have h00 : 0 < np := by omega
 clear n7 h8 hW8 hbh hpx hpy hbd x5
 go_wp2_with fail
 rw [HW8.out, HBH.out]
 refine Calls.mono (ireach w5 W8 bd _ (some ⟨nb, no, none⟩) nc ns _ px py (by rw [HBD.out]; exact Nat.le_refl _) (by show ([] : List Pnt).length ≤ _; simp) H8.out) ?_
 rintro e w9 ⟨rfl, h9⟩
 have H9 : Hid (DhS bd w5 w9 [(bh, px, py)] (some ⟨nb, no, none⟩) nc ns (reachD (startD ns (f % rndN ns)) (px, py))) := h9
 obtain ⟨_, _, _, _, _, n9, _⟩ := h9
 obtain ⟨l9, _⟩ := CBL.out w9 n9
 clear n9 l0 p0 p1
 have HDB : Hid (DB (0 + 1) (reachD (startD ns (f % rndN ns)) (px, py))) := DB.reach HSD.out (px, py)
 generalize hd1 : reachD (startD ns (f % rndN ns)) (px, py) = d1 at *
 have HD1 : Hid (reachD (startD ns (f % rndN ns)) (px, py) = d1) := hd1
 clear hd1
 go_upto_region 9 with fail
 go_cut [54, 55, 56] (fun s n i wx => ∃ A cc, s = .slice A (np - 1) cc ∧ (1 < np → A = some ⟨g, off + 2, none⟩) ∧ n = .int .i64 ((np - 1 : Nat) : Int) ∧ i = .int .i64 0 ∧ w9 = wx)
 case first =>
  by_cases hpc : pc = 1
  ·go_wp2
   all_goals go_meet
   all_goals exact ⟨_, _, rfl, fun h => absurd h (by omega), by simp, rfl, rfl⟩
  ·go_wp2
   all_goals go_meet
   all_goals exact ⟨_, _, rfl, fun h => by simp, by simp, rfl, rfl⟩
 case rest =>
  obtain ⟨A, cc, rfl, hA, rfl, rfl, hwc⟩ := hcut
  subst hwc
  have HA : Hid (1 < np → A = some ⟨g, off + 2, none⟩) := hA
  clear hA l9
  go_wp2
  go_loopw [56] (fun i wr => ∃ j : Nat, j ≤ np - 1 ∧ i = .int .i64 (j : Int) ∧ DhS bd w5 wr [(bh, (ptAt p j).1, (ptAt p j).2)] (some ⟨nb, no, none⟩) nc ns (segsD ns d1 p j) ∧ DB (j + 1) (segsD ns d1 p j)) (fun i _ => np - (intOf i).toNat)
  case atStart => exact ⟨0, by omega, rfl, by rw [HP0.out]; exact H9.out, HDB.out⟩
  case round =>
   obtain ⟨j, hj, rfl, hdj, hbj⟩ := hrel
   have HDJ : Hid (DhS bd w5 wr [(bh, (ptAt p j).1, (ptAt p j).2)] (some ⟨nb, no, none⟩) nc ns (segsD ns d1 p j)) := hdj
   have HBJ : Hid (DB (j + 1) (segsD ns d1 p j)) := hbj
   obtain ⟨_, _, _, _, _, nj, _⟩ := hdj
   have NJ : Hid (Nw w5 wr) := nj
   clear nj hbj
   by_cases hlt : j < np - 1
   ·have hAe := HA.out (by omega)
    subst hAe
    obtain ⟨r0, r1⟩ := CPT.out wr NJ.out (j + 1) (by omega)
    rw [show off + (j + 1) * 2 = off + 2 + j * 2 by omega] at r0 r1
    have HSG : Hid (segsD ns d1 p (j + 1) = alongD ns (segsD ns d1 p j) (ptAt p j) (ptAt p (j + 1))) := rfl
    have HNJ : Hid (nearB (ptAt p j) = true ∧ nearB (ptAt p (j + 1)) = true) := ⟨nearsB_at HNE.out j (by rw [HNP.out]; omega), nearsB_at HNE.out (j + 1) (by rw [HNP.out]; omega)⟩
    generalize hq1 : ptAt p (j + 1) = qn at *
    have HQ1 : Hid (ptAt p (j + 1) = qn) := hq1
    generalize ptAt p j = qh at *
    obtain ⟨hx, hy⟩ := qh
    obtain ⟨nx, ny⟩ := qn
    simp only at HDJ r0 r1
    clear hq1
    obtain ⟨Wb, hWb⟩ : ∃ Wb, wr.alloc (.cells #[.int .i64 nx, .int .i64 ny] 34) = Wb := ⟨_, rfl⟩
    have hb := DhS.box HDJ.out nx ny 34
    rw [hWb] at hb
    obtain ⟨bn, hbn2⟩ : ∃ bn, wr.heap.size = bn := ⟨_, rfl⟩
    rw [hbn2] at hb
    have HB : Hid (DhS bd w5 Wb [(bn, nx, ny), (bh, hx, hy)] (some ⟨nb, no, none⟩) nc ns (segsD ns d1 p j)) := hb
    obtain ⟨s0, s1⟩ := DhS.at HB.out (b := bh) (x := hx) (y := hy) (by simp)
    have HWb : Hid (_ = Wb) := hWb
    have HBN : Hid (wr.heap.size = bn) := hbn2
    have t0 : (wr.alloc (.cells #[.int .i64 nx, .int .i64 ny] 34)).cell? ⟨bh, 0, none⟩ = some (.int .i64 hx) := by rw [hWb]; exact s0
    have t1 : (wr.alloc (.cells #[.int .i64 nx, .int .i64 ny] 34)).cell? ⟨bh, 1, none⟩ = some (.int .i64 hy) := by rw [hWb]; exact s1
    clear hb hWb hbn2 s0 s1
    have hlt' : j < np - 1 := hlt
    go_wp2_with fail
    rw [HWb.out, HBN.out]
    refine Calls.mono (ialong w5 Wb bd _ (some ⟨nb, no, none⟩) nc ns (segsD ns d1 p j) hx hy nx ny (j + 1) (by rw [HBD.out]; exact Nat.le_refl _) HNJ.out.1 HNJ.out.2 (Ints.nw HI.out N3.out) HNB.out (by omega) (by omega) HBJ.out HB.out) ?_
    rintro e w10 ⟨rfl, h10, b10⟩
    have H10 : Hid _ := h10
    have B10 : Hid _ := b10
    obtain ⟨s0, s1⟩ := DhS.at H10.out (b := bn) (x := nx) (y := ny) (by simp)
    obtain ⟨s2, s3⟩ := DhS.at H10.out (b := bh) (x := hx) (y := hy) (by simp)
    have sf : ∀ o, w10.frozen? ⟨bh, o, none⟩ = false := by
     obtain ⟨_, _, _, _, _, _, kb⟩ := h10
     exact (kb (bh, hx, hy) (by simp)).2.2.1
    have H11 : Hid _ := DhS.move (DhS.sub (K' := [(bh, hx, hy)]) H10.out (fun k hk => by simp at hk; simp [hk])) HGE.out nx ny
    clear h10 b10 t0 t1 r0 r1
    go_wp2
    go_roundw
    case rel => exact ⟨j + 1, by omega, by go_num, by rw [HQ1.out, HSG.out]; exact H11.out, by rw [HSG.out]; exact B10.out⟩
    case measure => simp [intOf]; omega
   ·have hjn : j = np - 1 := by omega
    obtain ⟨l0, l1⟩ := CBL.out wr NJ.out
    obtain ⟨D0, hD0⟩ : ∃ D0, (if cl then alongD ns (segsD ns d1 p j) (ptAt p j) (px, py) else segsD ns d1 p j) = D0 := ⟨_, rfl⟩
    have HDA : Hid (dash1 ns f p cl = layD D0) := by
     show _ = _
     rw [← hD0]
     unfold dash1 dash0 lastP
     rw [HNP.out, HP0.out, HD1.out, hjn]
    have HD0 : Hid (_ = D0) := hD0
    clear hD0
    have HNJ : Hid (nearB (ptAt p j) = true ∧ nearB (px, py) = true) := ⟨nearsB_at HNE.out j (by rw [HNP.out]; omega), by rw [← HP0.out]; exact nearsB_at HNE.out 0 (by rw [HNP.out]; omega)⟩
    have hnl : ¬ j < np - 1 := hlt
    generalize ptAt p j = qh at *
    obtain ⟨hx, hy⟩ := qh
    simp only at HDJ
    cases cl with
    | false =>
     have HX : Hid (DhS bd w5 wr [] (some ⟨nb, no, none⟩) nc ns D0 ∧ DB (j + 2) D0) := by
      have e : segsD ns d1 p j = D0 := HD0.out
      rw [e] at HDJ HBJ
      exact ⟨DhS.sub HDJ.out (fun k hk => absurd hk (by simp)), HBJ.out.more⟩
     have H12 : Hid (DhS bd w5 wr [] (some ⟨nb, no, none⟩) nc ns D0) := HX.out.1
     have B12 : Hid (DB (j + 2) D0) := HX.out.2
     go_wp2_with fail
     refine Calls.mono (ilay w5 wr bd [] (some ⟨nb, no, none⟩) nc ns D0 (by rw [HBD.out]; exact Nat.le_refl _) (by have := B12.out.ho; have := B12.out.hb; omega) H12.out) ?_
     rintro e w13 ⟨rfl, v, it, u, dh, ho, nw13, _⟩
     have HVV : Hid (dsV ns f p false = if 2400 < D0.begun ∨ 600 < manyL (layD D0).o then ([], false) else ((layD D0).o, true)) := by
      show _ = _
      rw [HV.out, HDA.out]
      rfl
     obtain ⟨la, lc, hv, hlines⟩ := OwnLn.lines dh.d.ln
     rw [ho] at hv hlines
     subst hv
     have c3 := dh.c3
     have c5 := dh.c5
     have hbg : (layD D0).begun = D0.begun := rfl
     rw [hbg] at c3
     have hml : manyL (layD D0).o ≤ 10000 := by
      have e := endL_many D0.o D0.p false
      have := B12.out.hm
      have := B12.out.hb
      have := B12.out.hp
      show manyL (endL D0.o D0.p false) ≤ _
      omega
     have hll : (layD D0).o.length ≤ 10000 := by
      have e := endL_len D0.o D0.p false
      have := B12.out.ho
      have := B12.out.hb
      show (endL D0.o D0.p false).length ≤ _
      omega
     have HMA : Hid _ := imany w13 la lc (layD D0).o (by omega) (by omega) hlines
     have O13 : Hid (LsOk w13 w.heap.size (.slice la (layD D0).o.length lc) (layD D0).o) := LsOk.of (OwnLn.base dh.d.ln (by have := Below.size N3.out; have := HBD.out; omega)) ho
     have N13 : Hid (Nw w w13) := Nw.trans N3.out nw13
     have C13 : Hid (bd < w13.heap.size) := dh.lt
     clear dh ho nw13 hlines
     generalize hbb : D0.begun = bb at *
     generalize (layD D0).o.length = ol at *
     by_cases h24 : 2400 < bb
     ·have hd : decide ((2400 : Int) < (bb : Int)) = true := by simp; omega
      have HE : Hid (dsV ns f p false = ([], false)) := by show _ = _; rw [HVV.out, if_pos (Or.inl h24)]
      go_wp2
      go_ret2
      rw [HE.out]
      exact ⟨_, rfl, LsOk.of (OwnLn.nil _ _) rfl, N13.out⟩
     ·have hd : decide ((2400 : Int) < (bb : Int)) = false := by simp; omega
      generalize hmm : manyL (layD D0).o = mm at *
      have HMM : Hid (manyL (layD D0).o = mm) := hmm
      clear hmm
      by_cases h6 : 600 < mm
      ·have hd2 : decide ((600 : Int) < (mm : Int)) = true := by simp; omega
       have HE : Hid (dsV ns f p false = ([], false)) := by show _ = _; rw [HVV.out, if_pos (Or.inr h6)]
       go_wp2_with fail
       refine Calls.mono HMA.out ?_
       rintro e w14 ⟨rfl, k14⟩
       have N14 : Hid (Nw w w14) := Nw.trans N13.out k14.nw
       clear k14
       go_wp2
       go_ret2
       rw [HE.out]
       exact ⟨_, rfl, LsOk.of (OwnLn.nil _ _) rfl, N14.out⟩
      ·have hd2 : decide ((600 : Int) < (mm : Int)) = false := by simp; omega
       have HE : Hid (dsV ns f p false = ((layD D0).o, true)) := by show _ = _; rw [HVV.out, if_neg (by omega)]
       go_wp2_with fail
       refine Calls.mono HMA.out ?_
       rintro e w14 ⟨rfl, k14⟩
       have N14 : Hid (Nw w w14) := Nw.trans N13.out k14.nw
       have O14 : Hid (LsOk w14 w.heap.size (.slice la ol lc) (layD D0).o) := LsOk.nw O13.out k14.nw
       have c5' := ((Kp.cells k14).1 _ _ C13.out).trans c5
       clear k14
       go_wp2
       go_ret2
       rw [HE.out]
       exact ⟨_, rfl, O14.out, N14.out⟩
    | true =>
     have e : alongD ns (segsD ns d1 p j) (hx, hy) (px, py) = D0 := HD0.out
     have nd : Nw wr wr.drew := (Below.refl _ _).drew
     have h0d := DhS.nw HDJ.out nd
     have HC : Hid (Calls Tryz.prog 33 #[.pointer (some ⟨bd, 0, none⟩), .agg #[.int .i64 hx, .int .i64 hy], .agg #[.int .i64 px, .int .i64 py]] wr.drew fun e w' => e = .returned (.tuple #[]) ∧ (DhS bd w5 w' [] (some ⟨nb, no, none⟩) nc ns D0 ∧ DB (j + 2) D0)) := by
      refine Calls.mono (ialong w5 wr.drew bd _ (some ⟨nb, no, none⟩) nc ns (segsD ns d1 p j) hx hy px py (j + 1) (by rw [HBD.out]; exact Nat.le_refl _) HNJ.out.1 HNJ.out.2 (Ints.nw HI.out N3.out) HNB.out (by omega) (by omega) HBJ.out h0d) ?_
      rintro e2 w' ⟨rfl, h1, h2⟩
      rw [e] at h1 h2
      exact ⟨rfl, DhS.sub h1 (fun k hk => absurd hk (by simp)), h2⟩
     obtain ⟨c0, _⟩ := CBL.out wr.drew (Nw.trans NJ.out nd)
     obtain ⟨a0, a1⟩ := DhS.at h0d (b := bh) (x := hx) (y := hy) (by simp)
     obtain ⟨p0, p1⟩ := CPT.out wr.drew (Nw.trans NJ.out nd) 0 (by omega)
     rw [HP0.out] at p0 p1
     simp only [Nat.zero_mul, Nat.add_zero] at p0 p1
     go_wp2
     refine reg_change (ops' := opsOf 16 Tryz.f6) (by kernel_rfl) ?_
     refine DS16.run ⟨w.heap.size, bh, bd, g, off, np, pc, hx, hy, px, py, fun w' => DhS bd w5 w' [] (some ⟨nb, no, none⟩) nc ns D0 ∧ DB (j + 2) D0, wr.drew, _⟩ ⟨c0, a0, a1, p0, p1, h00, HC.out, rfl, rfl, rfl, rfl⟩ wr rfl ?_
     rintro γ w12 h12
     have H12 : Hid (DhS bd w5 w12 [] (some ⟨nb, no, none⟩) nc ns D0) := h12.1
     have B12 : Hid (DB (j + 2) D0) := h12.2
     clear h12 c0 a0 a1 p0 p1 h0d nd
     simp only [Act.put, List.setIfInBounds_toArray, List.set_cons_zero, List.set_cons_succ]
     generalize γ 0 = z0 at *
     go_wp2_with fail
     refine Calls.mono (ilay w5 w12 bd [] (some ⟨nb, no, none⟩) nc ns D0 (by rw [HBD.out]; exact Nat.le_refl _) (by have := B12.out.ho; have := B12.out.hb; omega) H12.out) ?_
     rintro e w13 ⟨rfl, v, it, u, dh, ho, nw13, _⟩
     have HVV : Hid (dsV ns f p true = if 2400 < D0.begun ∨ 600 < manyL (layD D0).o then ([], false) else ((layD D0).o, true)) := by
      show _ = _
      rw [HV.out, HDA.out]
      rfl
     obtain ⟨la, lc, hv, hlines⟩ := OwnLn.lines dh.d.ln
     rw [ho] at hv hlines
     subst hv
     have c3 := dh.c3
     have c5 := dh.c5
     have hbg : (layD D0).begun = D0.begun := rfl
     rw [hbg] at c3
     have hml : manyL (layD D0).o ≤ 10000 := by
      have e := endL_many D0.o D0.p false
      have := B12.out.hm
      have := B12.out.hb
      have := B12.out.hp
      show manyL (endL D0.o D0.p false) ≤ _
      omega
     have hll : (layD D0).o.length ≤ 10000 := by
      have e := endL_len D0.o D0.p false
      have := B12.out.ho
      have := B12.out.hb
      show (endL D0.o D0.p false).length ≤ _
      omega
     have HMA : Hid _ := imany w13 la lc (layD D0).o (by omega) (by omega) hlines
     have O13 : Hid (LsOk w13 w.heap.size (.slice la (layD D0).o.length lc) (layD D0).o) := LsOk.of (OwnLn.base dh.d.ln (by have := Below.size N3.out; have := HBD.out; omega)) ho
     have N13 : Hid (Nw w w13) := Nw.trans N3.out nw13
     have C13 : Hid (bd < w13.heap.size) := dh.lt
     clear dh ho nw13 hlines
     generalize hbb : D0.begun = bb at *
     generalize (layD D0).o.length = ol at *
     by_cases h24 : 2400 < bb
     ·have hd : decide ((2400 : Int) < (bb : Int)) = true := by simp; omega
      have HE : Hid (dsV ns f p true = ([], false)) := by show _ = _; rw [HVV.out, if_pos (Or.inl h24)]
      go_wp2
      go_ret2
      rw [HE.out]
      exact ⟨_, rfl, LsOk.of (OwnLn.nil _ _) rfl, N13.out⟩
     ·have hd : decide ((2400 : Int) < (bb : Int)) = false := by simp; omega
      generalize hmm : manyL (layD D0).o = mm at *
      have HMM : Hid (manyL (layD D0).o = mm) := hmm
      clear hmm
      by_cases h6 : 600 < mm
      ·have hd2 : decide ((600 : Int) < (mm : Int)) = true := by simp; omega
       have HE : Hid (dsV ns f p true = ([], false)) := by show _ = _; rw [HVV.out, if_pos (Or.inr h6)]
       go_wp2_with fail
       refine Calls.mono HMA.out ?_
       rintro e w14 ⟨rfl, k14⟩
       have N14 : Hid (Nw w w14) := Nw.trans N13.out k14.nw
       clear k14
       go_wp2
       go_ret2
       rw [HE.out]
       exact ⟨_, rfl, LsOk.of (OwnLn.nil _ _) rfl, N14.out⟩
      ·have hd2 : decide ((600 : Int) < (mm : Int)) = false := by simp; omega
       have HE : Hid (dsV ns f p true = ((layD D0).o, true)) := by show _ = _; rw [HVV.out, if_neg (by omega)]
       go_wp2_with fail
       refine Calls.mono HMA.out ?_
       rintro e w14 ⟨rfl, k14⟩
       have N14 : Hid (Nw w w14) := Nw.trans N13.out k14.nw
       have O14 : Hid (LsOk w14 w.heap.size (.slice la ol lc) (layD D0).o) := LsOk.nw O13.out k14.nw
       have c5' := ((Kp.cells k14).1 _ _ C13.out).trans c5
       clear k14
       go_wp2
       go_ret2
       rw [HE.out]
       exact ⟨_, rfl, O14.out, N14.out⟩
theorem sl10dash (w : World) (a : Option Addr) (c : Nat) (l : List Int) (f : Int) (hl : l.length ≤ 1048576) (hr : Ints w a l) :
  Calls Tryz.prog 37 #[.slice a l.length c, .int .i64 f] w fun e w' => e = .returned (.bool (dshB l f)) ∧ Kp w w' := by
 have H : Hid _ := sgoodPen w ⟨0, 1, 1, f⟩ a c l hl hr
 have e : penB ⟨0, 1, 1, f⟩ l = dshB l f := by unfold penB; simp
 rw [e] at H
 unfold penV at H
 clear hr e
 generalize l.length = n at *
 generalize dshB l f = V at *
 go_enter Tryz.func37, Tryz.ntmps37
 go_wp2_with fail
 refine Calls.mono H.out ?_
 rintro e w1 ⟨rfl, k1⟩
 go_wp2
 go_ret
 exact ⟨rfl, k1⟩
theorem nears_all {p : List Pnt} (h : ∀ j, j < p.length → nearB (ptAt p j) = true) : nearsB p = true := by
 unfold nearsB
 exact all_true nearB (0, 0) p h
theorem nears_not {p : List Pnt} {j : Nat} (hj : j < p.length) (h : nearB (ptAt p j) = false) : nearsB p = false := by
 unfold nearsB
 exact all_false nearB (0, 0) p j hj h
theorem dsV_no {ns : List Int} {f : Int} {p : List Pnt} {cl : Bool} (h : dsIn ns f p = false) : dsV ns f p cl = ([], false) := by
 unfold dsV; rw [h]; rfl
set_option maxRecDepth 100000 in
set_option maxHeartbeats 8000000 in
theorem sdashed (w : World) (pa : Option Addr) (pc : Nat) (p : List Pnt) (cl : Bool) (na : Option Addr) (nc : Nat) (ns : List Int) (f : Int) (hp : p.length ≤ 1048576) (hn : ns.length ≤ 1048576) (hP : Pts w pa p) (hI : Ints w na ns) :
  Calls Tryz.prog 7 #[.agg #[.slice pa p.length pc, .bool cl], .slice na ns.length nc, .int .i64 f] w fun e w' => ∃ v, e = .returned (.tuple #[v, .bool (dsV ns f p cl).2]) ∧ LsOk w' w.heap.size v (dsV ns f p cl).1 ∧ Nw w w' := by
 obtain ⟨W1, hW1⟩ : ∃ W1, w.alloc (.cells #[.slice pa p.length pc, .bool cl] 25) = W1 := ⟨_, rfl⟩
 have N1 : Hid (Nw w W1) := by show Nw _ _; rw [← hW1]; exact (Below.refl _ _).alloc (Nat.le_refl _) _
 have q0 : W1.cell? ⟨w.heap.size, 0, none⟩ = some (.slice pa p.length pc) := by rw [← hW1, World.cell?_alloc_at _ _ _ _ rfl]; rfl
 have q1 : W1.cell? ⟨w.heap.size, 1, none⟩ = some (.bool cl) := by rw [← hW1, World.cell?_alloc_at _ _ _ _ rfl]; rfl
 have LB := World.block_lt_of_cell? W1 ⟨w.heap.size, 0, none⟩ q0
 have CBL : Hid (∀ w', Nw W1 w' → w'.cell? ⟨w.heap.size, 0, none⟩ = some (.slice pa p.length pc) ∧ w'.cell? ⟨w.heap.size, 1, none⟩ = some (.bool cl)) := fun w' k => ⟨((bcell k).1 _ _ LB).trans q0, ((bcell k).1 _ _ LB).trans q1⟩
 have HW1 : Hid (_ = W1) := hW1
 have H1 : Hid (∀ w, Calls Tryz.prog 36 #[.int .i64 (p.length : Int), .int .i64 1, .int .i64 600] w fun e w' => e = .returned (.bool (decide ((1 : Int) ≤ (p.length : Int) ∧ (p.length : Int) ≤ 600))) ∧ w' = w) := fun w => in_any w p.length 1 600
 have e1 : decide ((1 : Int) ≤ (p.length : Int) ∧ (p.length : Int) ≤ 600) = decide (1 ≤ p.length ∧ p.length ≤ 600) := by rw [Bool.eq_iff_iff]; simp; omega
 rw [e1] at H1
 have HD : Hid _ := sl10dash W1 na nc ns f hn (Ints.nw hI N1.out)
 obtain ⟨R, hR⟩ : ∃ R, dsV ns f p cl = R := ⟨_, rfl⟩
 rw [hR]
 have HR : Hid (dsV ns f p cl = R) := hR
 have HP : Hid (Pts w pa p) := hP
 have HI : Hid (Ints w na ns) := hI
 by_cases h6 : 1 ≤ p.length ∧ p.length ≤ 600
 ·rw [decide_eq_true h6] at H1
  cases hdb : dshB ns f with
  | false =>
   rw [hdb] at HD
   have HE : Hid (R = ([], false)) := by
    show _ = _
    rw [← HR.out]; refine dsV_no ?_
    unfold dsIn; rw [hdb]; simp
   clear hdb e1 hW1 hR hP hI LB h6
   generalize p.length = np at *
   generalize ns.length = nn at *
   go_enter Tryz.func7, Tryz.ntmps7
   go_wp2_with fail
   rw [HW1.out]
   refine Calls.mono (H1.out _) ?_
   rintro e w2 ⟨rfl, rfl⟩
   go_wp2_with fail
   refine Calls.mono HD.out ?_
   rintro e w3 ⟨rfl, k3⟩
   have N3 : Hid (Nw w w3) := Nw.trans N1.out k3.nw
   clear k3
   go_wp2
   go_ret2
   exact ⟨.slice none 0 0, by rw [HE.out]; rfl, by rw [HE.out]; exact LsOk.of (OwnLn.nil _ _) rfl, N3.out⟩
  | true =>
   rw [hdb] at HD
   obtain ⟨z1, z2, z3⟩ := dsh_NB hdb
   have HNS : Hid (∀ i, i < ns.length → 0 ≤ intAt ns i ∧ intAt ns i ≤ 67108864) := z3
   obtain ⟨g, off, hpa, hlie⟩ := Pts.lie hP (by omega)
   subst hpa
   have HL : Hid (LieP w g off p) := hlie
   have HIN : Hid (dsIn ns f p = nearsB p) := by
    show _ = _
    unfold dsIn; rw [hdb, decide_eq_true h6]; simp
   have HLP : Hid (p.length = p.length) := rfl
   clear hdb e1 hW1 hR hP hI LB hlie
   generalize hnp : p.length = np at *
   have HNP : Hid (p.length = np) := hnp
   generalize hnn : ns.length = nn at *
   have HNN : Hid (ns.length = nn) := hnn
   clear hnp hnn HLP
   have hd8 : nn ≤ 8 := z1
   clear z3
   go_enter Tryz.func7, Tryz.ntmps7
   go_wp2_with fail
   rw [HW1.out]
   refine Calls.mono (H1.out _) ?_
   rintro e w2 ⟨rfl, rfl⟩
   go_wp2_with fail
   refine Calls.mono HD.out ?_
   rintro e w3 ⟨rfl, k3⟩
   have K3 : Hid (Nw w2 w3) := k3.nw
   obtain ⟨l0, l1⟩ := CBL.out w3 k3.nw
   clear k3 q0 q1
   go_wp2
   clear l0 l1
   go_loopw [26] (fun i wr => ∃ k : Nat, k ≤ np ∧ i = .int .i64 (k : Int) ∧ Nw w2 wr ∧ ∀ j, j < k → nearB (ptAt p j) = true) (fun i _ => np - (intOf i).toNat)
   case atStart => exact ⟨0, Nat.zero_le _, rfl, K3.out, fun j hj => absurd hj (by omega)⟩
   case round =>
    obtain ⟨k, hk, rfl, nk, ha⟩ := hrel
    have NK : Hid (Nw w2 wr) := nk
    have HA : Hid _ := ha
    clear nk ha
    by_cases hlt : k < np
    ·obtain ⟨r0, r1⟩ := (LieP.nw HL.out (Nw.trans N1.out NK.out)).2 k (by rw [HNP.out]; exact hlt)
     have HC : Hid (∀ w, _) := fun w => snear w (ptAt p k).1 (ptAt p k).2
     have ep : nearB ((ptAt p k).1, (ptAt p k).2) = nearB (ptAt p k) := rfl
     rw [ep] at HC
     cases hnb : nearB (ptAt p k) with
     | false =>
      rw [hnb] at HC
      have HE : Hid (R = ([], false)) := by
       show _ = _
       rw [← HR.out]; refine dsV_no ?_
       rw [HIN.out]; exact nears_not (j := k) (by rw [HNP.out]; exact hlt) hnb
      clear hnb ep
      generalize (ptAt p k).1 = x at *
      generalize (ptAt p k).2 = y at *
      go_wp2_with fail
      refine Calls.mono (HC.out _) ?_
      rintro e w5 ⟨rfl, k5⟩
      have N5 : Hid (Nw w w5) := Nw.trans N1.out (Nw.trans NK.out (Nw.trans ((Below.refl _ _).alloc (Nat.le_refl _) _) k5.nw))
      clear k5 r0 r1
      go_wp2
      go_ret2
      exact ⟨.slice none 0 0, by rw [HE.out]; rfl, by rw [HE.out]; exact LsOk.of (OwnLn.nil _ _) rfl, N5.out⟩
     | true =>
      rw [hnb] at HC
      have HNB : Hid (nearB (ptAt p k) = true) := hnb
      clear hnb ep
      generalize hx : (ptAt p k).1 = x at *
      generalize hy : (ptAt p k).2 = y at *
      clear hx hy
      go_wp2_with fail
      refine Calls.mono (HC.out _) ?_
      rintro e w5 ⟨rfl, k5⟩
      have N5 : Hid (Nw w2 w5) := Nw.trans NK.out (Nw.trans ((Below.refl _ _).alloc (Nat.le_refl _) _) k5.nw)
      clear k5 r0 r1
      go_wp2
      go_roundw
      case rel =>
       refine ⟨k + 1, by omega, by go_num, N5.out, fun j hj => ?_⟩
       rcases Nat.lt_succ_iff_lt_or_eq.1 hj with h | h
       ·exact HA.out j h
       ·rw [h]; exact HNB.out
      case measure => simp [intOf]; omega
    ·have hkn : np = k := by omega
     subst hkn
     have hne : nearsB p = true := nears_all (fun j hj => HA.out j (by rw [HNP.out] at hj; exact hj))
     have hin : dsIn ns f p = true := by rw [HIN.out]; exact hne
     obtain ⟨l0, l1⟩ := CBL.out wr NK.out
     have NW : Hid (Nw w wr) := Nw.trans N1.out NK.out
     by_cases hs : sumN ns ns.length = 0
     ·have HE : Hid (R = ([⟨p, cl⟩], true)) := by
       show _ = _
       rw [← HR.out]; unfold dsV; rw [if_pos hin, if_pos hs]
      have HB : Hid _ := sdashB wr g off pc p cl na nc ns f (by rw [HNP.out]; omega) (by rw [HNP.out]; omega) (by rw [HNN.out]; exact hd8) (fun i hi => (HNS.out i (by rw [HNN.out] at hi; exact hi)).1) hs (LieP.nw HL.out NW.out) (Ints.nw HI.out NW.out)
      rw [HNP.out, HNN.out] at HB
      clear hs hin hne hlt hk
      go_wp2_with fail
      refine Calls.mono HB.out ?_
      rintro e w6 ⟨v, rfl, o6, n6⟩
      have O6 : Hid _ := o6
      have N6 : Hid (Nw w w6) := Nw.trans NW.out n6
      have B6 : Hid (LsOk w6 w.heap.size v [⟨p, cl⟩]) := by
       obtain ⟨it, oi, ei⟩ := o6
       exact LsOk.of (OwnLn.base oi (Below.size NW.out)) ei
      clear o6 n6 l0 l1
      go_wp2
      go_ret2
      exact ⟨v, by rw [HE.out]; rfl, by rw [HE.out]; exact B6.out, N6.out⟩
     ·have hnn0 : 0 < ns.length := sum_some hs
      have hNBs : NB ns := ⟨hnn0, fun i hi => HNS.out i (by rw [HNN.out] at hi; exact hi)⟩
      have hrp : 0 < rndN ns := by
       have := (sumN_bd hNBs.2 ns.length (Nat.le_refl _)).1
       unfold rndN
       split <;> omega
      have hall := all_both hNBs (by rw [HNN.out]; exact hd8) (Int.emod_nonneg f (show rndN ns ≠ 0 by omega)) (Int.emod_lt_of_pos f hrp) p cl (d := dash1 ns f p cl) rfl
      have HE : Hid (R = if (wk2 ns (f % rndN ns) p cl).many ≤ 600 ∧ (wk2 ns (f % rndN ns) p cl).begun ≤ 2400 then ((wk2 ns (f % rndN ns) p cl).out, true) else ([], false)) := by
       show _ = _
       rw [← hall, ← HR.out]
       unfold dsV
       rw [if_pos hin, if_neg hs]
      have HB : Hid _ := sdashC wr g off pc p cl na nc ns f (by rw [HNP.out]; omega) (by rw [HNP.out]; omega) hne (by rw [HNN.out]; exact hd8) hNBs z2.1 z2.2 hs (LieP.nw HL.out NW.out) (Ints.nw HI.out NW.out)
      rw [HNP.out, HNN.out] at HB
      clear hs hin hne hlt hk hall hnn0 hNBs hrp
      generalize wk2 ns (f % rndN ns) p cl = T at *
      by_cases hT : T.many ≤ 600 ∧ T.begun ≤ 2400
      ·rw [if_pos hT] at HE
       rw [decide_eq_true hT] at HB
       clear hT
       go_wp2_with fail
       refine Calls.mono HB.out ?_
       rintro e w6 ⟨v, rfl, o6, n6⟩
       have N6 : Hid (Nw w w6) := Nw.trans NW.out n6
       have B6 : Hid (LsOk w6 w.heap.size v T.out) := by
        obtain ⟨it, oi, ei⟩ := o6
        exact LsOk.of (OwnLn.base oi (Below.size NW.out)) ei
       clear o6 n6 l0 l1
       go_wp2
       go_ret2
       exact ⟨v, by rw [HE.out]; rfl, by rw [HE.out]; exact B6.out, N6.out⟩
      ·rw [if_neg hT] at HE
       rw [decide_eq_false hT] at HB
       clear hT
       go_wp2_with fail
       refine Calls.mono HB.out ?_
       rintro e w6 ⟨v, rfl, o6, n6⟩
       have N6 : Hid (Nw w w6) := Nw.trans NW.out n6
       clear o6 n6 l0 l1
       go_wp2
       go_ret2
       exact ⟨.slice none 0 0, by rw [HE.out]; rfl, by rw [HE.out]; exact LsOk.of (OwnLn.nil _ _) rfl, N6.out⟩
 ·rw [decide_eq_false h6] at H1
  have HE : Hid (R = ([], false)) := by
   show _ = _
   rw [← HR.out]; refine dsV_no ?_
   unfold dsIn; rw [decide_eq_false h6]; simp
  clear e1 hW1 hR hP hI LB h6
  generalize p.length = np at *
  generalize ns.length = nn at *
  go_enter Tryz.func7, Tryz.ntmps7
  go_wp2_with fail
  rw [HW1.out]
  refine Calls.mono (H1.out _) ?_
  rintro e w2 ⟨rfl, rfl⟩
  go_wp2
  go_ret2
  exact ⟨.slice none 0 0, by rw [HE.out]; rfl, by rw [HE.out]; exact LsOk.of (OwnLn.nil _ _) rfl, N1.out⟩
theorem idashed (w : World) (pa : Option Addr) (pc : Nat) (p : List Pnt) (cl : Bool) (na : Option Addr) (nc : Nat) (ns : List Int) (f : Int) (hp : p.length ≤ 1048576) (hn : ns.length ≤ 1048576) (hcap : p.length ≤ pc) (hP : Pts w pa p) (hI : Ints w na ns) :
  Calls Tryz.prog 6 #[.agg #[.slice pa p.length pc, .bool cl], .slice na ns.length nc, .int .i64 f] w fun e w' => ∃ v, e = .returned (.tuple #[v, .bool (dsV ns f p cl).2]) ∧ LsOk w' w.heap.size v (dsV ns f p cl).1 ∧ Nw w w' := by
 cases hin : dsIn ns f p with
 | false =>
  rw [dsV_no hin]
  refine Calls.mono (idashA w pa pc p cl na nc ns f hp hn hP hI hin) ?_
  rintro e w' ⟨rfl, n1⟩
  exact ⟨_, rfl, LsOk.of (OwnLn.nil _ _) rfl, n1⟩
 | true =>
  by_cases hs : sumN ns ns.length = 0
  ·have e : dsV ns f p cl = ([⟨p, cl⟩], true) := by unfold dsV; rw [if_pos hin, if_pos hs]
   rw [e]
   exact idashB w pa pc p cl na nc ns f hp hn hP hI hin hs
  ·exact idashC w pa pc p cl na nc ns f hp hn hP hI hcap hin hs
def Kin (lo hi : Nat) (w w' : World) : Prop := w.heap.size ≤ w'.heap.size ∧ ∀ b, lo ≤ b → b < hi → w'.heap[b]? = w.heap[b]?
theorem Kin.refl (lo hi : Nat) (w : World) : Kin lo hi w w := ⟨Nat.le_refl _, fun _ _ _ => rfl⟩
theorem Kin.trans {lo hi : Nat} {a b c : World} (h : Kin lo hi a b) (k : Kin lo hi b c) : Kin lo hi a c := ⟨Nat.le_trans h.1 k.1, fun i h1 h2 => (k.2 i h1 h2).trans (h.2 i h1 h2)⟩
theorem Kin.nw {lo hi : Nat} {w w' : World} (k : Nw w w') (h : hi ≤ w.heap.size) : Kin lo hi w w' := ⟨Below.size k, fun b _ hb => Below.block k b (by omega)⟩
theorem Kin.ext {lo hi : Nat} {v v' : Value} {w w' : World} (k : Ext v v' w w') (h : hi ≤ w.heap.size) (hv : ∀ b, v.ownBlock = some b → b < lo ∨ hi ≤ b) : Kin lo hi w w' :=
 ⟨k.1.size, fun b h1 h2 => k.1.block b (by omega) (fun e => by have := hv b e.symm; omega)⟩
theorem Kin.set {lo hi : Nat} {w : World} {b o : Nat} (u : Value) (h : b < lo ∨ hi ≤ b) : Kin lo hi w (w.setCell ⟨b, o, none⟩ u) :=
 ⟨(set_grown (w := w) (b := b) (o := o) (u := u)).size, fun i h1 h2 => by
  rcases Nat.lt_or_ge i w.heap.size with hl | hl
  ·exact (set_grown (w := w) (b := b) (o := o) (u := u)).block i hl (fun e => by injection e with e; omega)
  ·rw [Array.getElem?_eq_none hl, Array.getElem?_eq_none (by simpa using hl)]⟩
theorem OwnQ.kin {T : TypeId} {w w' : World} {B hi : Nat} {v : Value} {l : List VV} (h : OwnQ T w B v l) (k : Kin B hi w w') (hh : w.heap.size ≤ hi) : OwnQ T w' B v l := by
 refine ⟨h.1, ?_⟩
 rcases h.2 with hn | ⟨g, cap, cur, h1, h2, h3, rest⟩
 ·exact Or.inl hn
 ·have hlt := (Array.getElem?_eq_some_iff.1 h3).1
  exact Or.inr ⟨g, cap, cur, h1, h2, by rw [k.2 g h2 (by omega)]; exact h3, rest⟩
theorem OwnLn.kin {w w' : World} {B hi : Nat} {v : Value} {it : Its} (h : OwnLn w B v it) (k : Kin B hi w w') (hh : w.heap.size ≤ hi) : OwnLn w' B v it :=
 ⟨OwnQ.kin h.own k hh, fun i hi => OwnQ.kin (h.pts i hi) k hh, h.far, h.apart⟩
theorem near_bx {q : Pnt} : nearB q = true ↔ bxP (-67108864) 67108864 (-67108864) 67108864 q := by
 unfold nearB bxP
 rw [Bool.and_eq_true, nrB_iff, nrB_iff]
 exact Iff.rfl
def okSt (l : LD) : Prop := 0 < l.pts.length ∧ l.pts.length ≤ 600 ∧ ∀ x, x ∈ l.pts → nearB x = true
theorem mem_many {o : List LD} {l : LD} (h : l ∈ o) : l.pts.length ≤ manyL o := by
 obtain ⟨i, hi, rfl⟩ := List.getElem_of_mem h
 have := manyL_at o i hi
 unfold lnAt at this
 rw [show o.getD i noLD = o[i] by simp [hi]] at this
 exact this
theorem dsV_good {ns : List Int} {f : Int} {p : List Pnt} (cl : Bool) (h0 : 0 < p.length) (hn : nearsB p = true) : ∀ l, l ∈ (dsV ns f p cl).1 → okSt l := by
 intro l hl
 have hbd := (dsV_bd ns f p cl).2
 have hm := mem_many hl
 refine ⟨?_, by omega, fun x hx => near_bx.2 (dsV_bx (fun a b => (szV_is a b).1) ns f p cl (fun i hi => near_bx.1 (nearsB_at hn i hi)) l hl x hx)⟩
 unfold dsV at hl
 by_cases hin : dsIn ns f p = true
 ·rw [if_pos hin] at hl
  by_cases hs : sumN ns ns.length = 0
  ·rw [if_pos hs] at hl
   rw [List.mem_singleton.1 hl]; exact h0
  ·rw [if_neg hs] at hl
   by_cases hb : 2400 < (dash1 ns f p cl).begun ∨ 600 < manyL (dash1 ns f p cl).o
   ·rw [if_pos hb] at hl; cases hl
   ·rw [if_neg hb] at hl
    have := thick_dash ns f p cl l hl
    omega
 ·rw [if_neg hin] at hl; cases hl
theorem lnAt_mem {o : List LD} {k : Nat} (h : k < o.length) : lnAt o k ∈ o := by
 unfold lnAt
 rw [show o.getD k noLD = o[k] by simp [h]]
 exact List.getElem_mem h
theorem stK_zero {ls : List LD} {p : PD} {ns : List Int} {k : Nat} (hz : (lnAt ls k).pts.length = 0) : stK ls p ns (k + 1) = stK ls p ns k := by
 rw [stK]
 cases stK ls p ns k with
 | none => rfl
 | some o => simp only [hz, if_true]
theorem stK_no {ls : List LD} {p : PD} {ns : List Int} {k : Nat} (hz : (lnAt ls k).pts.length ≠ 0) (hd : (dsV ns p.f (lnAt ls k).pts (lnAt ls k).closed).2 = false) : stK ls p ns (k + 1) = none := by
 rw [stK]
 cases stK ls p ns k with
 | none => rfl
 | some o => simp only [hz, if_false, hd, Bool.false_eq_true]
theorem stK_yes {ls : List LD} {p : PD} {ns : List Int} {k : Nat} {o : List LD} (ho : stK ls p ns k = some o) (hz : (lnAt ls k).pts.length ≠ 0) (hd : (dsV ns p.f (lnAt ls k).pts (lnAt ls k).closed).2 = true) : stK ls p ns (k + 1) = some (o ++ strkS (dsV ns p.f (lnAt ls k).pts (lnAt ls k).closed).1 (p.w / 2) p.j p.c) := by
 rw [stK, ho]
 simp only [hz, if_false, hd, if_true]
theorem stkV_is {ls : List LD} {p : PD} {ns : List Int} (hp : penB p ns = true) (hm : manyL ls ≤ 600) (hn : nearL ls = true) (hw : p.w ≠ 0) : stkV ls p ns = match stK ls p ns ls.length with
  | none => ([], false)
  | some o => if manyL o ≤ 4800 then (o, true) else ([], false) := by
 unfold stkV
 rw [if_pos ⟨hp, hm, hn⟩, if_neg hw]
 cases stK ls p ns ls.length <;> rfl
theorem stkV_none {ls : List LD} {p : PD} {ns : List Int} (hp : penB p ns = true) (hm : manyL ls ≤ 600) (hn : nearL ls = true) (hw : p.w ≠ 0) {k : Nat} (hk : k ≤ ls.length) (h : stK ls p ns k = none) : stkV ls p ns = ([], false) := by
 rw [stkV_is hp hm hn hw]
 have := stK_none ls p ns h (ls.length - k)
 rw [show k + (ls.length - k) = ls.length by omega] at this
 rw [this]
theorem strkS_take_len (ds : List LD) (h j c : Int) (m : Nat) : (strkS (ds.take m) h j c).length ≤ 2 * manyL ds := Nat.le_trans (strkS_len _ _ _ _) (by have := manyL_le ds m; omega)
theorem stkV_many {ls : List LD} {p : PD} {ns : List Int} (hp : penB p ns = true) (hm : manyL ls ≤ 600) (hn : nearL ls = true) (hw : p.w ≠ 0) {k : Nat} (hk : k < ls.length) {o : List LD} (ho : stK ls p ns k = some o) (hz : (lnAt ls k).pts.length ≠ 0) (hd : (dsV ns p.f (lnAt ls k).pts (lnAt ls k).closed).2 = true) {m : Nat}
  (hq : 4800 < manyL (o ++ strkS ((dsV ns p.f (lnAt ls k).pts (lnAt ls k).closed).1.take m) (p.w / 2) p.j p.c)) : stkV ls p ns = ([], false) := by
 have hy := stK_yes ho hz hd
 generalize (dsV ns p.f (lnAt ls k).pts (lnAt ls k).closed).1 = ds at *
 have hsplit : strkS ds (p.w / 2) p.j p.c = strkS (ds.take m) (p.w / 2) p.j p.c ++ strkS (ds.drop m) (p.w / 2) p.j p.c := by
  unfold strkS
  rw [← List.flatMap_append, List.take_append_drop]
 have hge : ∀ o', stK ls p ns (k + 1) = some o' → 4801 ≤ manyL o' := fun o' ho' => by
  rw [hy] at ho'
  injection ho' with e
  rw [← e, hsplit, ← List.append_assoc, manyL_app']
  omega
 rw [stkV_is hp hm hn hw]
 cases hc : stK ls p ns ls.length with
 | none => rfl
 | some o' =>
  have := stK_more ls p ns hge (ls.length - (k + 1)) o' (by rw [show k + 1 + (ls.length - (k + 1)) = ls.length by omega]; exact hc)
  simp only
  rw [if_neg (by omega)]
set_option maxHeartbeats 1000000 in
theorem smanyB (w : World) (a : Option Addr) (c : Nat) (l : List LD) (hl : l.length ≤ 1048576) (hm : manyL l ≤ 100000000) (hr : Lines w a l) :
  Calls Tryz.prog 46 #[.slice a l.length c] w fun e w' => e = .returned (.int .i64 (manyL l : Int)) ∧ Kp w w' := by
 have HR : Hid (Lines w a l) := hr
 clear hr
 go_enter Tryz.func46, Tryz.ntmps46
 go_wp2
 go_loopw [3, 8] (fun x i wr => ∃ k : Nat, k ≤ l.length ∧ i = .int .i64 k ∧ x = .int .i64 (manyL (l.take k) : Int) ∧ Kp w wr) (fun _ i _ => l.length - (intOf i).toNat)
 case atStart => exact ⟨0, Nat.zero_le _, rfl, rfl, Kp.refl _⟩
 case round =>
  obtain ⟨k, hk, rfl, rfl, hw⟩ := hrel
  have HW : Hid (Kp w wr) := hw
  clear hw
  by_cases hlt : k < l.length
  ·rcases (HR.out.nw HW.out.nw) with h | ⟨b, off, rfl, hb, hc⟩
   ·rw [h] at hlt; simp at hlt
   obtain ⟨⟨pa, pc, q0, _⟩, q1⟩ := hc k hlt
   clear hc
   have hs := manyL_step l k hlt
   have hle := manyL_le l (k + 1)
   have HE : Hid (manyL (l.take (k + 1)) = manyL (l.take k) + (lnAt l k).pts.length) := hs
   rw [hs] at hle
   clear hs
   generalize manyL (l.take k) = m at *
   generalize (lnAt l k).pts.length = n at *
   generalize (lnAt l k).closed = cl at *
   go_wp2
   go_roundw
   case rel => exact ⟨k + 1, by omega, by go_num, by rw [HE.out]; go_num, HW.out.alloc _ _⟩
   case measure => simp [intOf]; omega
  ·have e : k = l.length := by omega
   subst e
   rw [List.take_length]
   go_wp2
   go_ret
   exact ⟨rfl, HW.out⟩
theorem sl10d (w : World) (g off pc : Nat) (p : List Pnt) (cl : Bool) (na : Option Addr) (nc : Nat) (ns : List Int) (f : Int) (hin : dsIn ns f p = true) (hL : LieP w g off p) (hI : Ints w na ns) :
  Calls Tryz.prog 39 #[.agg #[.slice (some ⟨g, off, none⟩) p.length pc, .bool cl], .slice na ns.length nc, .int .i64 f] w fun e w' => ∃ v o, e = .returned (.tuple #[v, .bool (dsV ns f p cl).2]) ∧ LsOk w' w.heap.size v o ∧ ((dsV ns f p cl).2 = true → o = (dsV ns f p cl).1) ∧ Nw w w' := by
 have hin' := hin
 unfold dsIn at hin'
 simp only [Bool.and_eq_true, decide_eq_true_eq] at hin'
 obtain ⟨⟨l1, l2⟩, hne, hd⟩ := hin'
 obtain ⟨z1, z2, z3⟩ := dsh_NB hd
 by_cases hs : sumN ns ns.length = 0
 ·have e : dsV ns f p cl = ([⟨p, cl⟩], true) := by unfold dsV; rw [if_pos hin, if_pos hs]
  rw [e]
  refine Calls.mono (sdashB w g off pc p cl na nc ns f (by omega) l2 z1 (fun i hi => (z3 i hi).1) hs hL hI) ?_
  rintro e w' ⟨v, rfl, o, n⟩
  exact ⟨v, _, rfl, o, fun _ => rfl, n⟩
 ·have hn0 : 0 < ns.length := sum_some hs
  have hNBs : NB ns := ⟨hn0, z3⟩
  have hrp : 0 < rndN ns := by
   have := (sumN_bd z3 ns.length (Nat.le_refl _)).1
   unfold rndN
   split <;> omega
  have hall := all_both hNBs z1 (Int.emod_nonneg f (show rndN ns ≠ 0 by omega)) (Int.emod_lt_of_pos f hrp) p cl (d := dash1 ns f p cl) rfl
  have e : dsV ns f p cl = if (wk2 ns (f % rndN ns) p cl).many ≤ 600 ∧ (wk2 ns (f % rndN ns) p cl).begun ≤ 2400 then ((wk2 ns (f % rndN ns) p cl).out, true) else ([], false) := by
   rw [← hall]; unfold dsV; rw [if_pos hin, if_neg hs]
  refine Calls.mono (sdashC w g off pc p cl na nc ns f (by omega) l2 hne z1 hNBs z2.1 z2.2 hs hL hI) ?_
  rintro e1 w' ⟨v, rfl, o, n⟩
  rw [e]
  by_cases hT : (wk2 ns (f % rndN ns) p cl).many ≤ 600 ∧ (wk2 ns (f % rndN ns) p cl).begun ≤ 2400
  ·rw [if_pos hT, decide_eq_true hT]
   exact ⟨v, _, rfl, o, fun _ => rfl, n⟩
  ·rw [if_neg hT, decide_eq_false hT]
   exact ⟨v, _, rfl, o, fun h => (by cases h), n⟩
theorem penB_w {p : PD} {ns : List Int} (h : penB p ns = true) : (0 ≤ p.w ∧ p.w ≤ 4194304) ∧ dshB ns p.f = true := by
 unfold penB at h
 simp only [Bool.and_eq_true, decide_eq_true_eq] at h
 exact ⟨h.1, h.2.2.2⟩
def EndS (w w' : World) (e : Ending) (RV : List LD × Bool) : Prop := ∃ v o, e = .returned (.tuple #[v, .bool RV.2]) ∧ LsOk w' w.heap.size v o ∧ (RV.2 = true → o = RV.1) ∧ Nw w w'
set_option maxRecDepth 100000 in
set_option maxHeartbeats 16000000 in
theorem sstroke (w : World) (a : Option Addr) (c : Nat) (ls : List LD) (p : PD) (na : Option Addr) (nc : Nat) (ns : List Int) (hl : ls.length ≤ 1048576) (hpen : penB p ns = true) (hm : manyL ls ≤ 600) (hnr : nearL ls = true) (hw0 : p.w ≠ 0) (hr : Lines w a ls) (hI : Ints w na ns) :
  Calls Tryz.prog 47 #[.slice a ls.length c, penV p (.slice na ns.length nc)] w fun e w' => EndS w w' e (stkV ls p ns) := by
 obtain ⟨⟨pw0, pw1⟩, hdsh⟩ := penB_w hpen
 have HZ : Hid (∀ k, (lnAt ls k).pts.length = 0 → stK ls p ns (k + 1) = stK ls p ns k) := fun k h => stK_zero h
 have HNO : Hid (∀ k, k < ls.length → (lnAt ls k).pts.length ≠ 0 → (dsV ns p.f (lnAt ls k).pts (lnAt ls k).closed).2 = false → stkV ls p ns = ([], false)) := fun k hk h1 h2 => stkV_none hpen hm hnr hw0 (show k + 1 ≤ ls.length by omega) (stK_no h1 h2)
 have HYES : Hid (∀ k o, stK ls p ns k = some o → (lnAt ls k).pts.length ≠ 0 → (dsV ns p.f (lnAt ls k).pts (lnAt ls k).closed).2 = true → stK ls p ns (k + 1) = some (o ++ strkS (dsV ns p.f (lnAt ls k).pts (lnAt ls k).closed).1 (p.w / 2) p.j p.c)) := fun k o h1 h2 h3 => stK_yes h1 h2 h3
 have HBD : Hid (∀ k o, k ≤ ls.length → stK ls p ns k = some o → o.length ≤ 720000 ∧ manyL o ≤ 24000000) := fun k o hk h => by
  obtain ⟨b1, b2⟩ := stK_bd ls p ns k o hk h
  have b3 := manyL_le ls k
  have b4 := b2.many
  exact ⟨by omega, by omega⟩
 have HEND : Hid (∀ o, stK ls p ns ls.length = some o → (stkV ls p ns).2 = decide (manyL o ≤ 4800) ∧ ((stkV ls p ns).2 = true → o = (stkV ls p ns).1)) := fun o h => by
  by_cases h4 : manyL o ≤ 4800
  ·have e : stkV ls p ns = (o, true) := by rw [stkV_is hpen hm hnr hw0, h]; simp only [if_pos h4]
   rw [e]; exact ⟨(decide_eq_true h4).symm, fun _ => rfl⟩
  ·have e : stkV ls p ns = ([], false) := by rw [stkV_is hpen hm hnr hw0, h]; simp only [if_neg h4]
   rw [e]; exact ⟨(decide_eq_false h4).symm, fun h => by cases h⟩
 have HIN : Hid (∀ k, k < ls.length → (lnAt ls k).pts.length ≠ 0 → dsIn ns p.f (lnAt ls k).pts = true ∧ ∀ l, l ∈ (dsV ns p.f (lnAt ls k).pts (lnAt ls k).closed).1 → okSt l) := fun k hk h => by
  have h1 := manyL_at ls k hk
  have h2 := nearL_at hnr k hk
  refine ⟨?_, dsV_good _ (by omega) h2⟩
  unfold dsIn
  rw [h2, hdsh, decide_eq_true (by omega)]; rfl
 have HDL : Hid (∀ k, (dsV ns p.f (lnAt ls k).pts (lnAt ls k).closed).1.length ≤ 1048576 ∧ manyL (dsV ns p.f (lnAt ls k).pts (lnAt ls k).closed).1 ≤ 600) := fun k => dsV_bd _ _ _ _
 obtain ⟨SK, hSK⟩ : ∃ SK, stK ls p ns = SK := ⟨_, rfl⟩
 have HS0 : Hid (SK 0 = some []) := by show _ = _; rw [← hSK]; rfl
 rw [hSK] at HZ HYES HBD HEND
 obtain ⟨RV, hRV⟩ : ∃ RV, stkV ls p ns = RV := ⟨_, rfl⟩
 rw [hRV] at HNO HEND ⊢
 clear hSK hRV
 have HR : Hid (Lines w a ls) := hr
 have HI : Hid (Ints w na ns) := hI
 have HPW : Hid (0 ≤ p.w ∧ p.w ≤ 4194304) := ⟨pw0, pw1⟩
 clear hr hI hpen hdsh hnr
 obtain ⟨pw, pj, pc, pf⟩ := p
 simp only [penV] at *
 have HLN : Hid (∀ (w : World) (a : Option Addr) (c : Nat) (l : LD), okSt l → Pts w a l.pts → _) := fun w a c l hk hP => sline w a c l ⟨pw, pj, pc, pf⟩ (.slice na ns.length nc) ⟨_, _, _, rfl⟩ hk.1 hk.2.1 hk.2.2 HPW.out.1 HPW.out.2 hP
 simp only at HLN
 generalize hh : pw / 2 = h at *
 clear hh
 have d0 : (pw == 0) = false := by simp [hw0]
 obtain ⟨W, hW⟩ : ∃ W, w.alloc (.cells #[.int .i64 pw, .int .i64 pj, .int .i64 pc, .slice na ns.length nc, .int .i64 pf] 36) = W := ⟨_, rfl⟩
 obtain ⟨bp, hbp⟩ : ∃ bp, w.heap.size = bp := ⟨_, rfl⟩
 have y0 : W.cell? ⟨bp, 0, none⟩ = some (.int .i64 pw) := by rw [← hW, ← hbp]; simp
 have y1 : W.cell? ⟨bp, 1, none⟩ = some (.int .i64 pj) := by rw [← hW, ← hbp]; simp
 have y2 : W.cell? ⟨bp, 2, none⟩ = some (.int .i64 pc) := by rw [← hW, ← hbp]; simp
 have y3 : W.cell? ⟨bp, 3, none⟩ = some (.slice na ns.length nc) := by rw [← hW, ← hbp]; simp
 have y4 : W.cell? ⟨bp, 4, none⟩ = some (.int .i64 pf) := by rw [← hW, ← hbp]; simp
 have HPB : Hid (∀ w', Nw W w' → (w'.cell? ⟨bp, 0, none⟩ = some (.int .i64 pw) ∧ w'.cell? ⟨bp, 1, none⟩ = some (.int .i64 pj) ∧ w'.cell? ⟨bp, 2, none⟩ = some (.int .i64 pc) ∧ w'.cell? ⟨bp, 3, none⟩ = some (.slice na ns.length nc) ∧ w'.cell? ⟨bp, 4, none⟩ = some (.int .i64 pf))) := fun w' k => ⟨nw_at k y0, nw_at k y1, nw_at k y2, nw_at k y3, nw_at k y4⟩
 have NW : Hid (Nw w W) := by show Nw _ _; rw [← hW]; exact (Below.refl _ _).alloc (Nat.le_refl _) _
 have HBP : Hid (w.heap.size = bp) := hbp
 have HBW : Hid (bp < W.heap.size) := World.block_lt_of_cell? W ⟨bp, 0, none⟩ y0
 have HW : Hid (_ = W) := hW
 clear hW hw0 y1 y2 y3 y4
 obtain ⟨nn, hnn⟩ : ∃ nn, ns.length = nn := ⟨_, rfl⟩
 have HNN : Hid (ns.length = nn) := hnn
 rw [hnn] at HPB HLN HW ⊢
 clear hnn
 obtain ⟨n, hn⟩ : ∃ n, ls.length = n := ⟨_, rfl⟩
 have HN : Hid (ls.length = n) := hn
 rw [hn] at HNO HBD HEND HIN hl ⊢
 clear hn
 go_enter Tryz.func47, Tryz.ntmps47
 go_upto_region 2 with fail
 rw [HW.out]
 go_wp2
 clear y0
 go_loopw [18, 6] (fun i v wr => ∃ (k : Nat) (it : Its), k ≤ n ∧ i = .int .i64 (k : Int) ∧ OwnLn wr W.heap.size v it ∧ SK k = some (it.map (·.2)) ∧ Nw W wr) (fun i _ _ => n - (intOf i).toNat)
 case atStart => exact ⟨0, [], Nat.zero_le _, rfl, OwnLn.nil _ _, HS0.out, Below.refl _ _⟩
 case round =>
  obtain ⟨k, it, hk, rfl, ho, he, hw⟩ := hrel
  have HE : Hid (SK k = some (it.map (·.2))) := he
  have HO : Hid (OwnLn wr W.heap.size _ it) := ho
  have HWr : Hid (Nw W wr) := hw
  have hbd := HBD.out k _ hk he
  rw [List.length_map] at hbd
  have hil : it.length ≤ 720000 := hbd.1
  have HIM : Hid (manyL (it.map (·.2)) ≤ 24000000) := hbd.2
  obtain ⟨va, vn, vc, hv⟩ := OwnQ.slice ho.own
  subst hv
  clear ho hw he hbd
  by_cases hlt : k < n
  ·have d1 : decide ((k : Int) < (n : Int)) = true := by simp; omega
   rcases (Lines.nw HR.out (Nw.trans NW.out HWr.out)) with h0 | ⟨b, off, rfl, hb, hc⟩
   ·have := HN.out; rw [h0] at this; simp at this; omega
   obtain ⟨⟨pa, pcc, q0, hP⟩, q1⟩ := hc k (by rw [HN.out]; exact hlt)
   have HPk : Hid (Pts wr pa (lnAt ls k).pts) := hP
   have HZk := HZ.out k
   have HNOk : Hid _ := HNO.out k hlt
   have HYk : Hid _ := HYES.out k
   have HINk : Hid _ := HIN.out k hlt
   have HDLk := HDL.out k
   clear hc hP HZ HNO HYES HIN HDL
   generalize lnAt ls k = ll at *
   obtain ⟨pts, cl⟩ := ll
   simp only at q0 q1 HPk HZk HNOk HYk HINk HDLk
   by_cases hz : pts.length = 0
   ·have HZZ : Hid (SK (k + 1) = SK k) := HZk hz
    rw [hz] at q0
    clear HZk
    go_wp2
    go_roundw
    case rel => exact ⟨k + 1, it, hlt, by go_num, OwnLn.nw HO.out (Kp.nw ((Kp.refl wr).alloc _ _)), by rw [HZZ.out]; exact HE.out, Nw.trans HWr.out (Kp.nw ((Kp.refl wr).alloc _ _))⟩
    case measure => simp [intOf]; omega
   ·obtain ⟨gp, op, hpa, hlie⟩ := Pts.lie HPk.out (by omega)
    subst hpa
    obtain ⟨hin, hok⟩ := HINk.out hz
    obtain ⟨W1, hW1⟩ : ∃ W1, wr.alloc (.cells #[.slice (some ⟨gp, op, none⟩) pts.length pcc, .bool cl] 25) = W1 := ⟨_, rfl⟩
    have n1 : Nw wr W1 := by rw [← hW1]; exact Kp.nw ((Kp.refl wr).alloc _ _)
    have HD : Hid _ := sl10d W1 gp op pcc pts cl na nc ns pf hin (LieP.nw hlie n1) (Ints.nw HI.out (Nw.trans NW.out (Nw.trans HWr.out n1)))
    have d2 : ((pts.length : Int) == 0) = false := beq_eq_false_iff_ne.2 (by omega)
    obtain ⟨x0, x1, x2, x3, x4⟩ := HPB.out wr HWr.out
    have hbpw : bp < wr.heap.size := World.block_lt_of_cell? wr ⟨bp, 0, none⟩ x0
    have HOK : Hid _ := hok
    have HNZ : Hid (¬ pts.length = 0) := hz
    have HW1 : Hid (_ = W1) := hW1
    have N1 : Hid (Nw wr W1) := n1
    rw [HNN.out] at HD
    clear hin hok hlie hW1 n1 HINk HPk HZk
    cases hds : (dsV ns pf pts cl).2 with
    | false =>
     have HNN2 : Hid (RV = ([], false)) := HNOk.out HNZ.out hds
     rw [hds] at HD
     clear hds hz
     generalize pts.length = np at *
     go_wp2_with fail
     rw [HW1.out]
     refine Calls.mono HD.out ?_
     rintro e w2 ⟨v2, o2, rfl, h2, _, n2⟩
     have N2 : Hid (Nw w w2) := Nw.trans NW.out (Nw.trans HWr.out (Nw.trans N1.out n2))
     clear h2 n2
     go_wp2
     go_ret2
     rw [HNN2.out]
     exact ⟨.slice none 0 0, [], rfl, LsOk.of (OwnLn.nil _ _) rfl, (fun h => by cases h), N2.out⟩
    | true =>
     rw [hds] at HD
     have HSK : Hid _ := HYk.out _ HE.out HNZ.out hds
     generalize (dsV ns pf pts cl).1 = ds at *
     clear hds hz HNOk HYk
     generalize pts.length = np at *
     obtain ⟨wo, hwo⟩ : ∃ x, x = wr := ⟨_, rfl⟩
     subst hwo
     go_wp2_with fail
     rw [HW1.out]
     refine Calls.mono HD.out ?_
     rintro e w2 ⟨v2, o2, rfl, ⟨itd, od, ed⟩, hod, n2⟩
     have hed : itd.map (·.2) = ds := ed.trans (hod (by first | rfl | trivial | assumption))
     obtain ⟨da, dc, hv2, _⟩ := OwnLn.lines od
     rw [hed] at hv2
     have OD : Hid (OwnLn w2 W1.heap.size v2 itd) := od
     have HED : Hid (itd.map (·.2) = ds) := hed
     have NO2 : Hid (Nw wo w2) := Nw.trans N1.out n2
     have N2 : Hid (Nw W w2) := Nw.trans HWr.out NO2.out
     have S12 : Hid (wo.heap.size ≤ W1.heap.size ∧ W1.heap.size ≤ w2.heap.size) := ⟨Below.size N1.out, Below.size n2⟩
     have HV2 : Hid (v2 = .slice da ds.length dc) := hv2
     obtain ⟨nd, hnd⟩ : ∃ nd, ds.length = nd := ⟨_, rfl⟩
     have HND : Hid (ds.length = nd) := hnd
     rw [hnd] at hv2 HDLk
     subst hv2
     clear od ed hod n2 hed hnd x0 x1 x2 x3 x4 HD q0 q1
     go_wp2
     go_loopw [39, 6] (fun i v wr => ∃ (m : Nat) (it' : Its), m ≤ nd ∧ i = .int .i64 (m : Int) ∧ OwnLn wr W.heap.size v it' ∧ it'.map (·.2) = it.map (·.2) ++ strkS (ds.take m) h pj pc ∧ Nw W wr ∧ Kin W1.heap.size w2.heap.size w2 wr ∧ (∀ b, v.ownBlock = some b → b < W1.heap.size ∨ w2.heap.size ≤ b)) (fun i _ _ => nd - (intOf i).toNat)
     case atStart =>
      refine ⟨0, it, Nat.zero_le _, rfl, OwnLn.nw HO.out NO2.out, by simp [strkS], N2.out, Kin.refl _ _ _, fun b hb => Or.inl ?_⟩
      have h1 := (OwnQ.lt HO.out.own b hb).2
      have h2 := S12.out.1
      omega
     case round =>
      obtain ⟨m, it', hm', rfl, ho', he', hw', hkin, hbl⟩ := hrel
      have HE' : Hid _ := he'
      have HO' : Hid (OwnLn wr W.heap.size _ it') := ho'
      have HW' : Hid (Nw W wr) := hw'
      have HK' : Hid (Kin W1.heap.size w2.heap.size w2 wr) := hkin
      have HBL' : Hid _ := hbl
      obtain ⟨ua, un, uc, hu⟩ := OwnQ.slice ho'.own
      subst hu
      clear ho' he' hw' hkin hbl
      by_cases hmlt : m < nd
      ·have d3 : decide ((m : Int) < (nd : Int)) = true := by simp; omega
       have odk := OwnLn.kin OD.out HK'.out (Nat.le_refl _)
       obtain ⟨da', dc', hda, hLn⟩ := OwnLn.lines odk
       rw [HED.out] at hda hLn
       have e0 : da = da' := by injection hda
       rw [← e0] at hLn
       clear hda e0
       rcases hLn with h0 | ⟨b2, off2, hda2, hb2, hc2⟩
       ·have := HND.out; rw [h0] at this; simp at this; omega
       subst hda2
       obtain ⟨⟨pa2, pc2, r0, hP2⟩, r1⟩ := hc2 m (by rw [HND.out]; exact hmlt)
       have hok2 := HOK.out (lnAt ds m) (lnAt_mem (by rw [HND.out]; exact hmlt))
       have HSS : Hid (strkS (ds.take (m + 1)) h pj pc = strkS (ds.take m) h pj pc ++ strkL (lnAt ds m) h pj pc) := strkS_succ ds h pj pc m (by rw [HND.out]; exact hmlt)
       have hll : it'.length ≤ 730000 := by
        have e1 := congrArg List.length HE'.out
        rw [List.length_map, List.length_append, List.length_map] at e1
        have e2 := strkS_take_len ds h pj pc m
        have e3 := HDLk.2
        omega
       have hsl := strkL_len (lnAt ds m) h pj pc
       have hs6 := hok2.2.1
       obtain ⟨x0, x1, x2, x3, x4⟩ := HPB.out wr HW'.out
       have hbpw2 : bp < wr.heap.size := World.block_lt_of_cell? wr ⟨bp, 0, none⟩ x0
       generalize lnAt ds m = dl at *
       obtain ⟨dpts, dcl⟩ := dl
       simp only at r0 r1 hP2 hok2 hsl hs6
       obtain ⟨W3, hW3⟩ : ∃ W3, wr.alloc (.cells #[.slice pa2 dpts.length pc2, .bool dcl] 25) = W3 := ⟨_, rfl⟩
       have n3 : Nw wr W3 := by rw [← hW3]; exact Kp.nw ((Kp.refl wr).alloc _ _)
       have HLL : Hid _ := HLN.out W3 pa2 pc2 ⟨dpts, dcl⟩ hok2 (Pts.nw hP2 n3)
       simp only at HLL
       have N3 : Hid (Nw wr W3) := n3
       have HSL : Hid ((strkL ⟨dpts, dcl⟩ h pj pc).length ≤ 1200) := by show _ ≤ _; omega
       have HLT : Hid (it'.length ≤ 730000) := hll
       have HW3 : Hid (_ = W3) := hW3
       generalize strkL ⟨dpts, dcl⟩ h pj pc = ST at *
       clear hP2 hok2 hsl hs6 hc2 odk n3 hW3 hll
       generalize dpts.length = dn at *
       go_wp2_with fail
       rw [HW3.out]
       refine Calls.mono HLL.out ?_
       rintro e w4 ⟨v4, rfl, ⟨it4, o4, e4⟩, n4⟩
       obtain ⟨ga, gn, gc, hv4⟩ := OwnQ.slice o4.own
       subst hv4
       have O4 : Hid (OwnLn w4 W3.heap.size (.slice ga gn gc) it4) := o4
       have E4 : Hid (it4.map (·.2) = ST) := e4
       have N4 : Hid (Nw wr w4) := Nw.trans N3.out n4
       have L4 : Hid (it4.length ≤ 1200) := by show _ ≤ _; have := congrArg List.length e4; rw [List.length_map] at this; have := HSL.out; omega
       have S3 : Hid (wr.heap.size ≤ W3.heap.size) := Below.size N3.out
       clear o4 e4 n4 r0 r1 x0 x1 x2 x3 x4 HLL
       go_wp2_with (at_builtin; (refine wpl_qs 25 29 29 (.slice none 0 0) (.bool false) 32 under_lns under_lns info_line (by decide) rfl w4 rfl (.tmp 43) (.tmp 46) rfl W.heap.size W3.heap.size (.slice ua un uc) (.slice ga gn gc) (vLn it') (vLn it4) rfl rfl (OwnQ.nw HO'.out.own N4.out) O4.out.own O4.out.its.one ?hl ?hB ?_))
       case hl => rw [vLn_len, vLn_len]; have h1 := HLT.out; have h2 := L4.out; omega
       case hB => exact Nat.le_trans (Below.size HW'.out) (Below.size N4.out)
       intro v' w5 h2 h3
       rw [← vLn_append] at h2
       have O5 : Hid (OwnLn w5 W.heap.size v' (it' ++ it4)) := OwnLn.puts (u := .slice none 0 0) HO'.out N4.out (Below.size HW'.out) (ItsOk.base O4.out.its S3.out) h2 h3
       have N5 : Hid (Nw W w5) := Below.trans (Nw.trans HW'.out N4.out) (Ext.below h3 (fun g hg => (OwnQ.lt HO'.out.own g hg).1) (Nat.le_trans (Below.size HW'.out) (Below.size N4.out)))
       have s24 : w2.heap.size ≤ w4.heap.size := Nat.le_trans HK'.out.1 (Below.size N4.out)
       have K5 : Hid (Kin W1.heap.size w2.heap.size w2 w5) := Kin.trans HK'.out (Kin.trans (Kin.nw N4.out HK'.out.1) (Kin.ext h3 s24 HBL'.out))
       have B5 : Hid (∀ b, v'.ownBlock = some b → b < W1.heap.size ∨ w2.heap.size ≤ b) := fun b hb => by
        rcases h3.2 with h4 | ⟨g, h4, h5⟩
        ·rw [h4] at hb; exact HBL'.out b hb
        ·rw [h4] at hb; injection hb with hb; omega
       obtain ⟨ka, kn, kc, hk5⟩ := OwnQ.slice h2
       subst hk5
       clear h2 h3 s24
       go_wp2
       go_roundw
       case rel => exact ⟨m + 1, _, hmlt, by go_num, O5.out, by rw [List.map_append, HE'.out, E4.out, HSS.out, List.append_assoc], N5.out, K5.out, B5.out⟩
       case measure => simp [intOf]; omega
      ·obtain rfl : m = nd := by omega
       have d3 : decide ((m : Int) < (m : Int)) = false := by simp
       have HTK : Hid (ds.take m = ds) := by show _ = _; rw [← HND.out, List.take_length]
       go_wp2
       go_roundw
       case rel => exact ⟨k + 1, it', hlt, by go_num, HO'.out, by rw [HSK.out, HE'.out, HTK.out], HW'.out⟩
       case measure => simp [intOf]; omega
  ·obtain rfl : k = n := by omega
   have d1 : decide ((k : Int) < (k : Int)) = false := by simp
   obtain ⟨e1, e2⟩ := HEND.out _ HE.out
   obtain ⟨va', vc', hva, hLn⟩ := OwnLn.lines HO.out
   injection hva with h1 h2 h3
   subst h1 h2 h3
   have HMN : Hid _ := smanyB wr va vc (it.map (·.2)) (by rw [List.length_map]; omega) (by have := HIM.out; omega) hLn
   have HE1 : Hid _ := e1
   have HE2 : Hid _ := e2
   clear e1 e2 hLn
   generalize hMM : it.map (·.2) = MM at *
   have HMM : Hid (it.map (·.2) = MM) := hMM
   clear hMM
   by_cases h4 : manyL MM ≤ 4800
   ·have d4 : decide ((manyL MM : Int) ≤ 4800) = true := by simp; omega
    have HR2 : Hid (RV.2 = true) := by show _ = _; rw [HE1.out, decide_eq_true h4]
    clear h4
    generalize manyL MM = mm at *
    generalize MM.length = ml at *
    go_wp2_with fail
    refine Calls.mono HMN.out ?_
    rintro e w7 ⟨rfl, k7⟩
    have K7 : Hid (Nw wr w7) := Kp.nw k7
    clear k7
    go_wp2
    go_ret2
    unfold EndS
    exact ⟨_, MM, by rw [HR2.out]; rfl, LsOk.of (OwnLn.base (OwnLn.nw HO.out K7.out) (Below.size NW.out)) HMM.out, HE2.out, Nw.trans NW.out (Nw.trans HWr.out K7.out)⟩
   ·have d4 : decide ((manyL MM : Int) ≤ 4800) = false := by simp; omega
    have HR2 : Hid (RV.2 = false) := by show _ = _; rw [HE1.out, decide_eq_false h4]
    clear h4
    generalize manyL MM = mm at *
    generalize MM.length = ml at *
    go_wp2_with fail
    refine Calls.mono HMN.out ?_
    rintro e w7 ⟨rfl, k7⟩
    have K7 : Hid (Nw wr w7) := Kp.nw k7
    clear k7
    go_wp2
    go_ret2
    unfold EndS
    exact ⟨_, MM, by rw [HR2.out]; rfl, LsOk.of (OwnLn.base (OwnLn.nw HO.out K7.out) (Below.size NW.out)) HMM.out, HE2.out, Nw.trans NW.out (Nw.trans HWr.out K7.out)⟩
end Go.Proofs.YtnkeljmecbohkaaGreat
