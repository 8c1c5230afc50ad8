/-
  What the specification's draw of lengths answers: some list of ints, and nothing that was there is written; its conditions stand in the theorem.
-/
import Derived.Test.YtakdmgnkcpahbaaDrawC
namespace Go.Proofs.Ytakdmgnkcpahbaa
open Go.ChangeShapes Go.WideShapes Go.ChangeAt Go.RowKit
set_option linter.unusedVariables false

/-- Some list has been drawn. -/
def Drawn (W w' : World) (g c : Nat) (zs : List Int) : Prop :=
  Below W.heap.size W w' ∧ W.heap.size ≤ g ∧ w'.ownsRow (W.heap.size + 1) 3 1 (.slice (some ⟨g, 0, none⟩) zs.length c) zs.length (ic zs) ∧ zs.length ≤ 1000

set_option maxRecDepth 100000 in
set_option maxHeartbeats 8000000 in
theorem drawCodes_any (W : World) (ca : Option Addr) (len cap : Nat) (hl : len ≤ 9223372036854775807) (hcode : Code W W.heap.size ca len) :
    Calls Try.prog 7 #[.slice ca len cap] W fun e w' => ∃ zs g c, e = .returned (.slice (some ⟨g, 0, none⟩) zs.length c) ∧ Drawn W w' g c zs := by
  obtain ⟨i0, hi, hz0, hz1, hz2⟩ := info_parts Try.info3
  have HD : Hid (Code W W.heap.size ca len) := hcode
  clear hcode
  have HO : Hid (((W.alloc (.cells #[.slice ca len cap, .int .i64 0, .int .u64 0] 43)).alloc (.cells #[.int .i64 1, .int .i64 1] 3)).ownsRow (W.heap.size + 1) 3 1 (.slice none 0 0) 0 []) := World.ownsRow_nil _ _ _ _
  have HN : Hid (∀ j u, [Value.int .i64 1, Value.int .i64 1][j]? = some u → ((W.alloc (.cells #[.slice ca len cap, .int .i64 0, .int .u64 0] 43)).alloc (.cells #[.int .i64 1, .int .i64 1] 3)).cell? ((⟨W.heap.size + 1, 0, none⟩ : Addr).add j) = some u) := by
    intro j u hj
    match j, hj with
    | 0, hj => simp at hj; subst hj; simp [Addr.add]
    | 1, hj => simp at hj; subst hj; simp [Addr.add]
  have H1 : Hid (∀ u ∈ [Value.int .i64 1, Value.int .i64 1], u.oneCell' = true) := by
    intro u hu; simp at hu; subst hu; rfl
  go_enter Try.func7, Try.ntmps7
  go_wp2_with (first
    | (at_builtin; refine wpList_append_own _ rfl _ _ 23 rfl (W.heap.size + 1) 3 i0 (.int .i64 0) 1 8 Try.underlying23 hi hz0 hz1 hz2 rfl (by decide) _ _ _ rfl HO.out ⟨W.heap.size + 1, 0, none⟩ 2 2 [.int .i64 1, .int .i64 1] rfl rfl HN.out H1.out ?c3 ?c4 ?c5 ?_)
    | go_in)
  case c3 => unfold maxLen; omega
  case c4 => omega
  case c5 => simp
  intro v' w1 hown' hgrow hnn
  obtain ⟨g1, c1, rfl⟩ := own_shape hown' hnn
  have hst : St W w1 W.heap.size ca len cap 0 g1 c1 [1, 1] := by
    refine ⟨?_, ?_, by simpa [ic] using hown', by intro z hz; simp at hz; omega⟩
    · exact ((cur_new W ca len cap 43).grown (World.grownBy_alloc _ _ none) (by simp)).grown hgrow (by simp [Value.ownBlock])
    · refine (((Below.refl W.heap.size W).alloc (Nat.le_refl _) (.cells #[.slice ca len cap, .int .i64 0, .int .u64 0] 43)).alloc (by simp) (.cells #[.int .i64 1, .int .i64 1] 3)).trans ⟨hgrow.os, hgrow.tape, hgrow.output, hgrow.size, fun k hk => hgrow.block k (by simp; omega) (by simp [Value.ownBlock])⟩
  have ST : Hid (St W w1 W.heap.size ca len cap 0 g1 c1 [1, 1]) := hst
  clear hst hown' hgrow hnn HO HN H1
  go_wp2_with fail
  refine Calls.mono (pick_any w1 W.heap.size ca len cap 0 20 hl (by omega) (by omega) (by omega) ST.out.cur (Code.below HD.out ST.out.bel)) ?_
  rintro e w2 ⟨m, rfl, m0, m1, hc2, hs2⟩
  have ST2 : Hid (St W w2 W.heap.size ca len cap 2 g1 c1 [1, 1]) := ST.out.pick hc2 hs2
  clear hc2 hs2 ST
  obtain ⟨M, rfl⟩ := Int.eq_ofNat_of_zero_le m0
  go_wp2
  go_loopw [4, 5] (fun v n wr => ∃ (M q g c : Nat) (zs : List Int), n = .int .i64 (M : Int) ∧ v = .slice (some ⟨g, 0, none⟩) zs.length c ∧ 2 ≤ zs.length ∧ zs.length + 2 * M ≤ 40 ∧ q + 6 * M ≤ 116 ∧ St W wr W.heap.size ca len cap q g c zs) (fun _ n _ => (intOf n).toNat)
  case atStart => exact ⟨M, 2, g1, c1, [1, 1], rfl, rfl, Nat.le_refl _, by simp; omega, by omega, ST2.out⟩
  case round =>
    clear ST2
    obtain ⟨K, q, g, c, zs, rfl, rfl, hz2', hzl, hq, hst⟩ := hrel
    have ST : Hid (St W wr W.heap.size ca len cap q g c zs) := hst
    clear hst
    by_cases hK : K = 0
    · subst hK
      go_wp2
      go_loopw [51] (fun i wr => ∃ (j q2 : Nat) (ys : List Int), j ≤ zs.length ∧ i = .int .i64 (j : Int) ∧ ys.length = zs.length ∧ q2 ≤ 200 + 6 * j ∧ St W wr W.heap.size ca len cap q2 g c ys) (fun i _ => zs.length - (intOf i).toNat)
      case atStart => exact ⟨0, q, zs, Nat.zero_le _, rfl, rfl, by omega, ST.out⟩
      case round =>
        clear ST
        obtain ⟨j, q2, ys, hj, rfl, hly, hq2, hst⟩ := hrel
        have ST : Hid (St W wr W.heap.size ca len cap q2 g c ys) := hst
        have HLY : Hid (ys.length = zs.length) := hly
        clear hst hly
        by_cases hlt : j < zs.length
        · have hj' : j < ys.length := by rw [HLY.out]; exact hlt
          have cc := ST.out.cell j hj'
          have hrg := ST.out.rng (ys.getD j 0) (by rw [List.getD_eq_getElem?_getD, List.getElem?_eq_getElem hj']; exact List.getElem_mem _)
          clear hj'
          by_cases h0 : ys.getD j 0 = 0
          · rw [h0] at cc
            clear hrg h0
            go_wp2
            go_roundw
            case rel => exact ⟨j + 1, q2, ys, by omega, by go_num, HLY.out, by omega, ST.out⟩
            case measure => simp [intOf]; omega
          · have e0 : (ys.getD j 0 == 0) = false := by rw [beq_eq_false_iff_ne]; exact h0
            clear h0
            generalize hx : ys.getD j 0 = x at *
            have HX : Hid _ := hx
            clear hx
            go_wp2_with fail
            refine Calls.mono (pick_any wr W.heap.size ca len cap q2 (zs.length : Int) hl (by omega) (by omega) (by omega) ST.out.cur (Code.below HD.out ST.out.bel)) ?_
            rintro e w3 ⟨k, rfl, k0, k1, hc3, hs3⟩
            have ST3 : Hid (St W w3 W.heap.size ca len cap (q2 + 2) g c ys) := ST.out.pick hc3 hs3
            clear hc3 hs3 ST cc
            obtain ⟨k, rfl⟩ := Int.eq_ofNat_of_zero_le k0
            go_wp2_with fail
            refine Calls.mono (one_any w3 W.heap.size ca len cap (q2 + 2) 2 hl (by omega) (by omega) (by omega) ST3.out.cur (Code.below HD.out ST3.out.bel)) ?_
            rintro e w6 ⟨b, rfl, hc6, hs6⟩
            have ST6 : Hid (St W w6 W.heap.size ca len cap (q2 + 2 + 2) g c ys) := ST3.out.pick hc6 hs6
            clear hc6 hs6 ST3
            cases b with
            | false =>
              go_wp2
              refine ⟨?_, ?measure⟩
              iterate 33 apply Exists.intro
              refine ⟨?rel, rfl⟩
              case rel => exact ⟨j + 1, q2 + 2 + 2, ys, by omega, by go_num, HLY.out, by omega, ST6.out⟩
              case measure => simp [intOf]; omega
            | true =>
              have hj' : j < ys.length := by rw [HLY.out]; exact hlt
              have hk' : k < ys.length := by rw [HLY.out]; omega
              have hk2 : k < zs.length := by omega
              have cj := ST6.out.cell j hj'
              have ck := ST6.out.cell k hk'
              rw [HX.out] at cj
              have hrk := ST6.out.rng (ys.getD k 0) (by rw [List.getD_eq_getElem?_getD, List.getElem?_eq_getElem hk']; exact List.getElem_mem _)
              have fj := ST6.out.own.frozenAt j
              have fk := ST6.out.own.frozenAt k
              have s1 := ST6.out.set j (ys.getD k 0) hrk
              have ck2 := s1.cell k (by rw [List.length_set]; exact hk')
              have s2 := s1.set k x hrg
              have hl2 : ((ys.set j (ys.getD k 0)).set k x).length = zs.length := by rw [List.length_set, List.length_set]; exact HLY.out
              have ST8 : Hid _ := s2
              have HL8 : Hid _ := hl2
              clear s1 s2 hl2 hj' hk'
              generalize (ys.set j (ys.getD k 0)).getD k 0 = y2 at *
              generalize (ys.set j (ys.getD k 0)).set k x = us at *
              generalize ys.getD k 0 = y at *
              have fk2 : (w6.setCell ⟨g, j, none⟩ (.int .i64 y)).frozen? ⟨g, k, none⟩ = false := by rw [World.frozen?_setCell]; exact fk
              go_wp2
              refine ⟨?_, ?measure⟩
              iterate 33 apply Exists.intro
              refine ⟨?rel, rfl⟩
              case rel => exact ⟨j + 1, q2 + 2 + 2, us, by omega, by go_num, HL8.out, by omega, ST8.out⟩
              case measure => simp [intOf]; omega
        · have e : j = zs.length := by omega
          subst e
          go_wp2_with fail
          refine Calls.mono (pick_any wr W.heap.size ca len cap q2 12 hl (by omega) (by omega) (by omega) ST.out.cur (Code.below HD.out ST.out.bel)) ?_
          rintro e w3 ⟨k, rfl, k0, k1, hc3, hs3⟩
          have ST3 : Hid (St W w3 W.heap.size ca len cap (q2 + 2) g c ys) := ST.out.pick hc3 hs3
          clear hc3 hs3 ST
          by_cases e0 : k = 0
          · subst e0
            go_wp2_with fail
            refine Calls.mono (pick_any w3 W.heap.size ca len cap (q2 + 2) 18 hl (by omega) (by omega) (by omega) ST3.out.cur (Code.below HD.out ST3.out.bel)) ?_
            rintro e w4 ⟨r, rfl, r0, r1, hc4, hs4⟩
            have ST4 : Hid (St W w4 W.heap.size ca len cap (q2 + 2 + 2) g c ys) := ST3.out.pick hc4 hs4
            clear hc4 hs4 ST3
            have HO4 : Hid ((w4.alloc (.cells #[.int .i64 (r - 1)] 3)).ownsRow (W.heap.size + 1) 3 1 (.slice (some ⟨g, 0, none⟩) zs.length c) zs.length (ic ys)) := by
              have h := World.ownsRow.alloc ST4.out.own (.cells #[.int .i64 (r - 1)] 3)
              rwa [HLY.out] at h
            have hB4 := ST4.out.cur.lt
            go_wp2_with (first
              | (at_builtin; refine wpList_append_own _ rfl _ _ 23 rfl (W.heap.size + 1) 3 i0 (.int .i64 0) 1 8 Try.underlying23 hi hz0 hz1 hz2 rfl (by decide) _ _ _ rfl HO4.out ⟨w4.heap.size, 0, none⟩ 1 1 [.int .i64 (r - 1)] rfl rfl (one_new w4 (r - 1)) (one_one (r - 1)) ?c3 ?c4 ?c5 ?_)
              | go_in)
            case c3 => unfold maxLen; omega
            case c4 => omega
            case c5 => simp; omega
            intro v' w5 hown' hgrow hnn
            obtain ⟨g5, c5, rfl⟩ := own_shape hown' hnn
            have HL5 : Hid (zs.length + 1 = (ys ++ [r - 1]).length) := by show _ = _; rw [List.length_append, HLY.out]; rfl
            have HG : Hid (Drawn W w5 g5 c5 (ys ++ [r - 1])) := by
              have hg4 := ST4.out.gt
              have hgrow2 : (w4.alloc (.cells #[.int .i64 (r - 1)] 3)).grownBy w5 (some g) := hgrow
              refine ⟨(ST4.out.bel.alloc (by omega) _).trans (grown_below hgrow2 (by omega) (by simp; omega)), by have := (hown'.lt g5 rfl).1; omega, ?_, by rw [← HL5.out]; omega⟩
              have e : ic ys ++ [.int .i64 (r - 1)] = ic (ys ++ [r - 1]) := by simp [ic]
              rw [e] at hown'
              rw [← HL5.out]
              exact hown'
            clear hown' hgrow hnn HO4 ST4
            go_wp2
            go_ret
            exact ⟨ys ++ [r - 1], g5, c5, by rw [← HL5.out]; rfl, HG.out⟩
          · have z0 : (k == 0) = false := by rw [beq_eq_false_iff_ne]; exact e0
            by_cases e1 : k = 1
            · subst e1
              go_wp2_with fail
              refine Calls.mono (pick_any w3 W.heap.size ca len cap (q2 + 2) 2 hl (by omega) (by omega) (by omega) ST3.out.cur (Code.below HD.out ST3.out.bel)) ?_
              rintro e w4 ⟨r, rfl, r0, r1, hc4, hs4⟩
              have ST4 : Hid (St W w4 W.heap.size ca len cap (q2 + 2 + 2) g c ys) := ST3.out.pick hc4 hs4
              clear hc4 hs4 ST3
              obtain ⟨m, hm⟩ : ∃ m : Nat, (300 : Int) - (zs.length : Int) + r = (m : Int) := ⟨(300 - (zs.length : Int) + r).toNat, by omega⟩
              have HO4 : Hid (w4.ownsRow (W.heap.size + 1) 3 1 (.slice (some ⟨g, 0, none⟩) zs.length c) zs.length (ic ys)) := by
                have h := ST4.out.own
                rwa [HLY.out] at h
              have hB4 := ST4.out.cur.lt
              have hm0 : 0 < m := by omega
              have hm1 : m ≤ 301 := by omega
              go_wp2_with (first
                | (at_builtin; refine wpList_append_zeros rfl _ _ rfl (W.heap.size + 1) g zs.length c (ic ys) m rfl rfl HO4.out hm0 (by omega) (by omega) (by omega) ?_)
                | go_in)
              intro g5 c5 w5 hown' hgrow
              have HL5 : Hid (zs.length + m = (ys ++ List.replicate m 0).length) := by show _ = _; rw [List.length_append, HLY.out, List.length_replicate]
              have HG : Hid (Drawn W w5 g5 c5 (ys ++ List.replicate m 0)) := by
                have hg4 := ST4.out.gt
                refine ⟨ST4.out.bel.trans (grown_below hgrow (by omega) (by omega)), by have := (hown'.lt g5 rfl).1; omega, ?_, by rw [← HL5.out]; omega⟩
                have e : ic ys ++ List.replicate m (.int .i64 0) = ic (ys ++ List.replicate m 0) := by simp [ic]
                rw [e] at hown'
                rw [← HL5.out]
                exact hown'
              clear hown' hgrow HO4 ST4
              go_wp2
              go_ret
              exact ⟨ys ++ List.replicate m 0, g5, c5, by rw [← HL5.out]; rfl, HG.out⟩
            · have z1 : (k == 1) = false := by rw [beq_eq_false_iff_ne]; exact e1
              have HG : Hid (Drawn W w3 g c ys) := ⟨ST3.out.bel, by have := ST3.out.gt; omega, ST3.out.own, by rw [HLY.out]; omega⟩
              have HL : Hid (zs.length = ys.length) := HLY.out.symm
              clear ST3 e0 e1
              go_wp2
              go_ret
              exact ⟨ys, g, c, by rw [← HL.out]; rfl, HG.out⟩
    · have hKp : decide ((0 : Int) < (K : Int)) = true := by simp; omega
      go_wp2_with fail
      refine Calls.mono (pick_any wr W.heap.size ca len cap q (zs.length : Int) hl (by omega) (by omega) (by omega) ST.out.cur (Code.below HD.out ST.out.bel)) ?_
      rintro e w3 ⟨k, rfl, k0, k1, hc3, hs3⟩
      have ST3 : Hid (St W w3 W.heap.size ca len cap (q + 2) g c zs) := ST.out.pick hc3 hs3
      clear hc3 hs3 ST
      obtain ⟨k, rfl⟩ := Int.eq_ofNat_of_zero_le k0
      have hk : k < zs.length := by omega
      have cc := ST3.out.cell k hk
      have hrg := ST3.out.rng (zs.getD k 0) (by rw [List.getD_eq_getElem?_getD, List.getElem?_eq_getElem hk]; exact List.getElem_mem _)
      have fg := ST3.out.own.frozenAt k
      by_cases h15 : zs.getD k 0 < 15
      · have st4 := ST3.out.set k (zs.getD k 0 + 1) (by omega)
        have hly : (zs.set k (zs.getD k 0 + 1)).length = zs.length := List.length_set
        have cc2 : (w3.setCell ⟨g, k, none⟩ (.int .i64 (zs.getD k 0 + 1))).cell? ⟨g, k, none⟩ = some (.int .i64 (zs.getD k 0 + 1)) := World.cell?_setCell_same _ _ _ cc
        generalize zs.set k (zs.getD k 0 + 1) = ys at *
        generalize zs.getD k 0 = x at *
        have ST4 : Hid (St W (w3.setCell ⟨g, k, none⟩ (.int .i64 (x + 1))) W.heap.size ca len cap (q + 2) g c ys) := st4
        have HLY : Hid (ys.length = zs.length) := hly
        have hB4 := st4.cur.lt
        clear st4 hly ST3
        have HO4 : Hid (((w3.setCell ⟨g, k, none⟩ (.int .i64 (x + 1))).alloc (.cells #[.int .i64 (x + 1)] 3)).ownsRow (W.heap.size + 1) 3 1 (.slice (some ⟨g, 0, none⟩) zs.length c) zs.length (ic ys)) := by
          have h := World.ownsRow.alloc ST4.out.own (.cells #[.int .i64 (x + 1)] 3)
          rwa [HLY.out] at h
        have hN1 : Hid _ := one_new (w3.setCell ⟨g, k, none⟩ (.int .i64 (x + 1))) (x + 1)
        go_wp2_with (first
          | (at_builtin; refine wpList_append_own _ rfl _ _ 23 rfl (W.heap.size + 1) 3 i0 (.int .i64 0) 1 8 Try.underlying23 hi hz0 hz1 hz2 rfl (by decide) _ _ _ rfl HO4.out ⟨w3.heap.size, 0, none⟩ 1 1 [.int .i64 (x + 1)] rfl rfl ?c1 (one_one (x + 1)) ?c3 ?c4 ?c5 ?_)
          | go_in)
        case c1 => simpa [World.setCell] using hN1.out
        case c3 => unfold maxLen; omega
        case c4 => omega
        case c5 => simp at hB4 ⊢; omega
        intro v' w5 hown' hgrow hnn
        obtain ⟨g5, c5, rfl⟩ := own_shape hown' hnn
        obtain ⟨us, hus⟩ : ∃ us, us = ys ++ [x + 1] := ⟨_, rfl⟩
        have ST5 : Hid (St W w5 W.heap.size ca len cap (q + 2) g5 c5 us) := by
          have h := ST4.out.app (w1 := w5) (x + 1) (by omega) #[.int .i64 (x + 1)] g5 c5 (by rw [HLY.out]; exact hown') hgrow
          rw [hus]; exact h
        have HLZ : Hid (us.length = zs.length + 1) := by show _ = _; rw [hus, List.length_append, HLY.out]; rfl
        clear hown' hgrow hnn HO4 ST4 hus hN1 cc cc2 fg HLY
        go_wp2_with fail
        refine Calls.mono (one_any w5 W.heap.size ca len cap (q + 2) 4 hl (by omega) (by omega) (by omega) ST5.out.cur (Code.below HD.out ST5.out.bel)) ?_
        rintro e w6 ⟨b, rfl, hc6, hs6⟩
        have ST6 : Hid (St W w6 W.heap.size ca len cap (q + 2 + 2) g5 c5 us) := ST5.out.pick hc6 hs6
        clear hc6 hs6 ST5
        cases b with
        | true =>
          have HO6 : Hid ((w6.alloc (.cells #[.int .i64 0] 3)).ownsRow (W.heap.size + 1) 3 1 (.slice (some ⟨g5, 0, none⟩) (zs.length + 1) c5) (zs.length + 1) (ic us)) := by
            have h := World.ownsRow.alloc ST6.out.own (.cells #[.int .i64 0] 3)
            rwa [HLZ.out] at h
          have hsz6 := ST6.out.cur.lt
          go_wp2_with (first
            | (at_builtin; refine wpList_append_own _ rfl _ _ 23 rfl (W.heap.size + 1) 3 i0 (.int .i64 0) 1 8 Try.underlying23 hi hz0 hz1 hz2 rfl (by decide) _ _ _ rfl HO6.out ⟨w6.heap.size, 0, none⟩ 1 1 [.int .i64 0] rfl rfl (one_new w6 0) (one_one 0) ?c3 ?c4 ?c5 ?_)
            | go_in)
          case c3 => unfold maxLen; omega
          case c4 => omega
          case c5 => simp; omega
          intro v' w7 hown' hgrow hnn
          obtain ⟨g7, c7, rfl⟩ := own_shape hown' hnn
          have ST7 : Hid (St W w7 W.heap.size ca len cap (q + 2 + 2) g7 c7 (us ++ [0])) := by
            refine ST6.out.app 0 (by omega) _ g7 c7 ?_ hgrow
            rw [HLZ.out]; exact hown'
          have HL7 : Hid (zs.length + 1 + 1 = (us ++ [0]).length) := by show _ = _; rw [List.length_append, HLZ.out]; rfl
          clear hown' hgrow hnn HO6 ST6
          go_wp2
          go_roundw
          case rel => exact ⟨K - 1, q + 2 + 2, g7, c7, us ++ [0], by rw [show ((K - 1 : Nat) : Int) = (K : Int) - 1 by omega], by rw [← HL7.out], by rw [← HL7.out]; omega, by rw [← HL7.out]; omega, by omega, ST7.out⟩
          case measure => simp [intOf]; omega
        | false =>
          go_wp2
          go_roundw
          case rel => exact ⟨K - 1, q + 2 + 2, g5, c5, us, by rw [show ((K - 1 : Nat) : Int) = (K : Int) - 1 by omega], by rw [HLZ.out], by rw [HLZ.out]; omega, by rw [HLZ.out]; omega, by omega, ST6.out⟩
          case measure => simp [intOf]; omega
      · have e15 : decide (zs.getD k 0 < 15) = false := decide_eq_false h15
        generalize zs.getD k 0 = x at *
        obtain ⟨ys, hys⟩ : ∃ ys, ys = zs := ⟨zs, rfl⟩
        have ST5 : Hid (St W w3 W.heap.size ca len cap (q + 2) g c ys) := by rw [hys]; exact ST3.out
        have HLZ : Hid (ys.length = zs.length) := by rw [hys]; exact (rfl : zs.length = zs.length)
        clear hys ST3
        go_wp2_with fail
        refine Calls.mono (one_any w3 W.heap.size ca len cap (q + 2) 4 hl (by omega) (by omega) (by omega) ST5.out.cur (Code.below HD.out ST5.out.bel)) ?_
        rintro e w6 ⟨b, rfl, hc6, hs6⟩
        have ST6 : Hid (St W w6 W.heap.size ca len cap (q + 2 + 2) g c ys) := ST5.out.pick hc6 hs6
        clear hc6 hs6 ST5
        cases b with
        | true =>
          have HO6 : Hid ((w6.alloc (.cells #[.int .i64 0] 3)).ownsRow (W.heap.size + 1) 3 1 (.slice (some ⟨g, 0, none⟩) (zs.length) c) (zs.length) (ic ys)) := by
            have h := World.ownsRow.alloc ST6.out.own (.cells #[.int .i64 0] 3)
            rwa [HLZ.out] at h
          have hsz6 := ST6.out.cur.lt
          go_wp2_with (first
            | (at_builtin; refine wpList_append_own _ rfl _ _ 23 rfl (W.heap.size + 1) 3 i0 (.int .i64 0) 1 8 Try.underlying23 hi hz0 hz1 hz2 rfl (by decide) _ _ _ rfl HO6.out ⟨w6.heap.size, 0, none⟩ 1 1 [.int .i64 0] rfl rfl (one_new w6 0) (one_one 0) ?c3 ?c4 ?c5 ?_)
            | go_in)
          case c3 => unfold maxLen; omega
          case c4 => omega
          case c5 => simp; omega
          intro v' w7 hown' hgrow hnn
          obtain ⟨g7, c7, rfl⟩ := own_shape hown' hnn
          have ST7 : Hid (St W w7 W.heap.size ca len cap (q + 2 + 2) g7 c7 (ys ++ [0])) := by
            refine ST6.out.app 0 (by omega) _ g7 c7 ?_ hgrow
            rw [HLZ.out]; exact hown'
          have HL7 : Hid (zs.length + 1 = (ys ++ [0]).length) := by show _ = _; rw [List.length_append, HLZ.out]; rfl
          clear hown' hgrow hnn HO6 ST6
          go_wp2
          go_roundw
          case rel => exact ⟨K - 1, q + 2 + 2, g7, c7, ys ++ [0], by rw [show ((K - 1 : Nat) : Int) = (K : Int) - 1 by omega], by rw [← HL7.out], by rw [← HL7.out]; omega, by rw [← HL7.out]; omega, by omega, ST7.out⟩
          case measure => simp [intOf]; omega
        | false =>
          go_wp2
          go_roundw
          case rel => exact ⟨K - 1, q + 2 + 2, g, c, ys, by rw [show ((K - 1 : Nat) : Int) = (K : Int) - 1 by omega], by rw [HLZ.out], by rw [HLZ.out]; omega, by rw [HLZ.out]; omega, by omega, ST6.out⟩
          case measure => simp [intOf]; omega
end Go.Proofs.Ytakdmgnkcpahbaa
