/-
  Whether one is reached from itself, the specification's; each theorem names its conditions.
-/
import Derived.Test.YthnmebmjmjfflaaDoorUsS
import Derived.Test.YthnmebmjmjfflaaDoorHcI
import Derived.Test.YthnmebmjmjfflaaDoorQue
import Derived.Test.YthnmebmjmjfflaaDoorMkSGood
namespace Go.Proofs.YthnmebmjmjfflaaDoor
open Go.ChangeShapes Go.WideShapes Go.ChangeAt Go.RowKit
set_option linter.unusedVariables false

/-- Nothing is below a text. -/
theorem text_bare {l : List ND} (hg : GoodP l) {k : Nat} (h0 : (nodeAt l k).name.size = 0) : ∀ m j, j < m → k < j → j < l.length → meetsN l k (j : Int) = true → False := by
  have hu := ups_of l l.length (Nat.le_refl _) hg.2
  intro m
  induction m with
  | zero => intro j h; omega
  | succ m ih =>
    intro j hm hk hj he
    have h2 := hu j hj
    rw [meetsN_up l k j l.length hu (Nat.le_refl _) (by omega) (by omega) (by omega), Int.toNat_natCast] at he
    have hle := meetsN_le l k l.length hu (Nat.le_refl _) (j + 1) (upAt l j) (by omega) (by omega) he
    by_cases e : upAt l j = k
    · obtain ⟨i, rfl⟩ : ∃ i, j = i + 1 := ⟨j - 1, by omega⟩
      have hok := hg.2 (i + 1) hj
      simp only [okB, Bool.and_eq_true] at hok
      have hp := hok.2
      unfold placeB at hp
      simp only [Bool.and_eq_true] at hp
      have hn := hp.2.1
      rw [e, Int.toNat_natCast] at hn
      unfold named at hn
      rw [h0] at hn
      cases hn
    · have e2 : upAt l j = ((upAt l j).toNat : Int) := by omega
      rw [e2] at he
      exact ih _ (by omega) (by omega) (by omega) he
theorem uses_text {l : List ND} (hg : GoodP l) {k : Nat} (hk : k < l.length) (h0 : (nodeAt l k).name.size = 0) (i : Nat) : uses l k i = false := by
  cases h : uses l k i with
  | false => rfl
  | true =>
    exfalso
    unfold uses usT at h
    rw [List.any_eq_true] at h
    obtain ⟨d, hd, h⟩ := h
    rw [List.mem_range] at hd
    rw [Bool.and_eq_true] at h
    by_cases e : d = 0
    · subst e
      have := h.2
      unfold useB isUse at this
      rw [Bool.and_eq_true, decide_eq_true_eq] at this
      rw [Nat.add_zero] at this
      have h1 := congrArg ByteArray.size this.1
      rw [h0] at h1
      revert h1
      decide
    · exact text_bare hg h0 (k + d + 1) (k + d) (by omega) (by omega) (by omega) h.1
theorem Rch_none {R : Nat → Nat → Bool} {n k : Nat} (h : ∀ i, R k i = false) : ¬ Rch R n k k := by
  rintro ⟨f, hf⟩
  cases f with
  | zero => rw [Pth, h] at hf; cases hf
  | succ f => obtain ⟨j, _, hj, _⟩ := hf; rw [h] at hj; cases hj
theorem usL_mem {l : List ND} {k : Nat} (i : Nat) : (i : Int) ∈ usL l k l.length ↔ uses l k i = true := by
  unfold usL
  rw [List.mem_map]
  constructor
  · rintro ⟨j, hj, e⟩
    rw [List.mem_filter] at hj
    have : j = i := by injection e
    subst this
    exact hj.2
  · intro h
    exact ⟨i, List.mem_filter.2 ⟨List.mem_range.2 (uses_lt h), h⟩, rfl⟩
/-- The numbers that are used, as numbers from 0 on. -/
def usN (l : List ND) (k : Nat) : List Nat := (List.range l.length).filter (uses l k)
theorem usN_mem {l : List ND} {k : Nat} (i : Nat) : i ∈ usN l k ↔ uses l k i = true := by
  unfold usN
  rw [List.mem_filter, List.mem_range]
  exact ⟨fun h => h.2, fun h => ⟨uses_lt h, h⟩⟩
theorem usN_eq (l : List ND) (k : Nat) : usL l k l.length = (usN l k).map Int.ofNat := rfl
theorem usN_len (l : List ND) (k : Nat) : (usN l k).length ≤ l.length := by
  have := usL_len l k l.length
  rw [usN_eq, List.length_map] at this
  exact this
def seenW (w : World) (g i : Nat) : Bool := match w.cell? ⟨g, i, none⟩ with | some (.bool b) => b | _ => false
theorem seenW_eq {w : World} {g n : Nat} {f : Nat → Bool} (h : Bls w g n f) : unseen (seenW w g) n = unseen f n :=
  unseen_same n fun i hi => by unfold seenW; rw [h.2.1 i hi]
def lenV : Value → Nat
  | .slice _ n _ => n
  | _ => 0
/-- What is still to be looked at: nothing, or a queue. -/
def QueO (w : World) (B : Nat) (va : Option Addr) (vc : Nat) (T : List Int) : Prop := (va = none ∧ vc = 0 ∧ T = []) ∨ ∃ g o, va = some ⟨g, o, none⟩ ∧ Que w B g o vc T

set_option maxHeartbeats 4000000 in
theorem shasCycle (w : World) (a : Option Addr) (c : Nat) (l : List ND) (hl : l.length ≤ 1048576) (hz : Small l) (hr : Nodes w a l) :
    Calls Tryd.prog 14 #[.slice a l.length c] w fun e w' => e = .returned (.tuple #[.bool (cycS l), .bool (goodB l)]) ∧ Nw w w' := by
  have HR : Hid (Nodes w a l) := hr
  have HZ : Hid (Small l) := hz
  clear hr hz
  by_cases hg : goodB l = true
  · have HP : Hid (GoodP l) := (goodB_iff l).1 hg
    have h60 : l.length ≤ 60 := HP.out.1.2
    have HO : Hid (cycS l = cycB (uses l) l.length) := by show _ = _; unfold cycS; rw [hg]; rfl
    have HGB : Hid (goodB l = true) := hg
    have hmk := run_mk 55 4 (.bool false) 1 1 Tryd.underlying55 (by kernel_rfl) l.length (by omega) (by omega)
    have hcs : (Value.bool false).cells = #[.bool false] := rfl
    rw [hcs, Nat.mul_one] at hmk
    go_enter Tryd.func14, Tryd.ntmps14
    go_wp2_with fail
    refine Calls.mono (sgoodNodes _ _ _ l hl HZ.out HR.out) ?_
    rw [hg]
    rintro e w1 ⟨rfl, k1⟩
    have K1 : Hid (Nw w w1) := k1
    have HR1 : Hid (Nodes w1 a l) := HR.out.nw k1
    clear k1 hg
    go_wp2
    go_loopw [14] (fun i wr => ∃ n : Nat, n ≤ l.length ∧ i = .int .i64 n ∧ (∀ j, j < n → ¬ Rch (uses l) l.length j j) ∧ Nw w1 wr) (fun i _ => l.length - (intOf i).toNat)
    case atStart => exact ⟨0, Nat.zero_le _, rfl, fun j hj => absurd hj (by omega), Below.refl _ _⟩
    case round =>
      obtain ⟨k, hk, rfl, hno, hw⟩ := hrel
      have HW : Hid (Nw w1 wr) := hw
      have HN : Hid (∀ j, j < k → ¬ Rch (uses l) l.length j j) := hno
      clear hno
      by_cases hlt : k < l.length
      · have hltI : (k : Int) < l.length := by omega
        have HRw : Hid (Nodes wr a l) := HR1.out.nw hw
        rcases HRw.out with h | ⟨b, o, rfl, hb, hc⟩
        · rw [h] at hlt; simp at hlt
        obtain ⟨q0, q1, ⟨aa, cc, q2, qc, qa⟩, q3⟩ := hc k hlt
        have HTX : Hid ((nodeAt l k).name.size = 0 → ¬ Rch (uses l) l.length k k) := fun h => Rch_none (uses_text HP.out hlt h)
        clear hc hw qa hb
        generalize (nodeAt l k).name = nm at *
        generalize (nodeAt l k).up = up at *
        generalize (nodeAt l k).text = tx at *
        generalize (nodeAt l k).attrs = at' at *
        have S1 : Hid (Nw wr (wr.alloc (.cells #[.string nm, .int .i64 up, .slice aa at'.length cc, .string tx] 46))) := (Below.refl _ _).alloc (Nat.le_refl _) _
        by_cases hnz : nm.size = 0
        · have HX : Hid (∀ j, j < k + 1 → ¬ Rch (uses l) l.length j j) := fun j hj => by
            by_cases e : j = k
            · subst e; exact HTX.out hnz
            · exact HN.out j (by omega)
          obtain rfl := empty_of hnz
          clear hnz
          go_wp2
          go_roundw
          case rel => exact ⟨k + 1, by omega, by go_num, HX.out, HW.out.trans S1.out⟩
          case measure => simp [intOf]; omega
        · have n1 := ne_nil (s := nm) (by omega)
          have n2 := ne_emp (s := nm) (by omega)
          clear hnz
          have S2 : Hid (Nw wr ((wr.alloc (.cells #[.string nm, .int .i64 up, .slice aa at'.length cc, .string tx] 46)).alloc (.cells (madeCells #[.bool false] l.length) 4))) := S1.out.trans ((Below.refl _ _).alloc (Nat.le_refl _) _)
          have BL2 : Hid (Bls ((wr.alloc (.cells #[.string nm, .int .i64 up, .slice aa at'.length cc, .string tx] 46)).alloc (.cells (madeCells #[.bool false] l.length) 4)) (wr.heap.size + 1) l.length (fun _ => false)) := by
            show Bls _ _ _ _
            have := Bls.made (wr.alloc (.cells #[.string nm, .int .i64 up, .slice aa at'.length cc, .string tx] 46)) l.length 4
            simpa using this
          go_wp2_with fail
          refine Calls.mono (suses _ _ c l k hlt HP.out HZ.out (HRw.out.nw S2.out)) ?_
          rintro e w2 ⟨v, rfl, hins, hz2, k2⟩
          have e3 : (((wr.alloc (.cells #[.string nm, .int .i64 up, .slice aa at'.length cc, .string tx] 46)).alloc (.cells (madeCells #[.bool false] l.length) 4)).heap.size + 1) = wr.heap.size + 3 := by simp
          rw [e3] at hins hz2
          have W2 : Hid (Nw w1 w2) := (HW.out.trans S2.out).trans k2
          have BL3 : Hid (Bls w2 (wr.heap.size + 1) l.length (fun _ => false)) := BL2.out.nw k2
          have hgz : w1.heap.size ≤ wr.heap.size := Below.size HW.out
          have HST : Hid (∃ va vc, v = .slice va (usN l k).length vc ∧ QueO w2 (wr.heap.size + 3) va vc ((usN l k).map Int.ofNat)) := by
            rcases hins.que with ⟨h1, h2⟩ | ⟨g, vc, h1, h2⟩
            · refine ⟨none, 0, ?_, Or.inl ⟨rfl, rfl, by rw [← usN_eq]; exact h2⟩⟩
              rw [h1]
              have : (usN l k).length = 0 := by rw [usN_eq] at h2; simpa using h2
              rw [this]
            · refine ⟨_, vc, ?_, Or.inr ⟨g, 0, rfl, by rw [← usN_eq]; exact h2⟩⟩
              rw [h1, usN_eq, List.length_map]
          obtain ⟨va, vc, rfl, hqo⟩ := HST.out
          have HQ0 : Hid (QueO w2 (wr.heap.size + 3) va vc ((usN l k).map Int.ofNat)) := hqo
          have HSR : Hid (Srch (uses l) l.length k (fun _ => false) (usN l k)) := Srch.start (fun i => usN_mem i) (fun i h => uses_lt h)
          have HM0 : Hid (unseen (fun _ => false) l.length * (l.length + 1) + (usN l k).length ≤ 10000) := by
            show _ ≤ _
            have h1 := usN_len l k
            have h2 : unseen (fun _ => false) l.length = l.length := by
              have : ∀ n, unseen (fun _ => false) n = n := fun n => by
                induction n with
                | zero => rfl
                | succ n ih => rw [unseen, ih]; rfl
              exact this _
            rw [h2]
            have h3 : l.length * (l.length + 1) ≤ 60 * 61 := Nat.mul_le_mul h60 (by omega)
            omega
          have HZ2 : Hid (wr.heap.size + 3 ≤ w2.heap.size) := hz2
          have HGZ : Hid (w1.heap.size ≤ wr.heap.size) := hgz
          clear hins hz2 k2 hqo HST BL2 S1 S2 e3 hmk hcs hgz q0 q1 q2 q3 n1 n2
          generalize hG : wr.heap.size = G at *
          clear hG
          generalize usN l k = T0 at *
          go_wp2
          go_loopw [7] (fun v wi => ∃ (T : List Nat) (f : Nat → Bool) (va : Option Addr) (vc : Nat), v = .slice va T.length vc ∧ Srch (uses l) l.length k f T ∧ Bls wi (G + 1) l.length f ∧ QueO wi (G + 3) va vc (T.map Int.ofNat) ∧ Nw w1 wi ∧ G + 3 ≤ wi.heap.size ∧ unseen f l.length * (l.length + 1) + T.length ≤ 10000) (fun v wi => unseen (seenW wi (G + 1)) l.length * (l.length + 1) + lenV v)
          case atStart => exact ⟨T0, fun _ => false, va, vc, rfl, HSR.out, BL3.out, HQ0.out, W2.out, HZ2.out, HM0.out⟩
          case round =>
            obtain ⟨T, f, va, vc, rfl, hs, hbl, hqo, hw, hz3, hme⟩ := hrel
            have HS : Hid (Srch (uses l) l.length k f T) := hs
            have HBL : Hid (Bls wr (G + 1) l.length f) := hbl
            have HWi : Hid (Nw w1 wr) := hw
            have HZ3 : Hid (G + 3 ≤ wr.heap.size) := hz3
            have HME : Hid (unseen f l.length * (l.length + 1) + T.length ≤ 10000) := hme
            have HRi : Hid (Nodes wr (some ⟨b, o, none⟩) l) := HR1.out.nw hw
            clear hs hw hz3
            cases T with
            | nil =>
              have HX : Hid (∀ j, j < k + 1 → ¬ Rch (uses l) l.length j j) := fun j hj => by
                by_cases e : j = k
                · subst e; exact HS.out.done
                · exact HN.out j (by omega)
              clear hbl hqo hme
              go_wp2
              go_roundw
              case rel => exact ⟨k + 1, by omega, by go_num, HX.out, HWi.out⟩
              case measure => simp [intOf]; omega
            | cons x T =>
              have hx : x < l.length := HS.out.lt x (by simp)
              have hxI : (x : Int) < l.length := by omega
              have HQ : Hid (∃ g q, va = some ⟨g, q, none⟩ ∧ Que wr (G + 3) g q vc (Int.ofNat x :: T.map Int.ofNat)) := by
                rcases hqo with ⟨_, _, h⟩ | h
                · simp at h
                · exact h
              obtain ⟨g, q, rfl, hq⟩ := HQ.out
              have HQU : Hid (Que wr (G + 3) g q vc (Int.ofNat x :: T.map Int.ofNat)) := hq
              have c0 := hq.head
              have hcap : T.length + 1 ≤ vc := by have := hq.cap; simpa using this
              have cs := hbl.2.1 x hx
              have cf := hbl.2.2
              have hTl : T.length ≤ 10000 := by simp only [List.length_cons] at hme; omega
              clear hq hqo hme hbl HQ
              have c0' : wr.cell? ⟨g, q, none⟩ = some (.int .i64 (x : Int)) := c0
              clear c0
              rw [List.length_cons]
              obtain ⟨N, hN⟩ : ∃ N, N = T.length + 1 := ⟨_, rfl⟩
              have HN1 : Hid (N = T.length + 1) := hN
              rw [← hN]
              have hn1 : 1 ≤ N := by omega
              have hn2 : N ≤ vc := by omega
              have hn3 : N ≤ 10001 := by omega
              have hn0 : (0 : Int) < (N : Int) := by omega
              clear hcap hTl hN
              by_cases hxk : x = k
              · have HX : Hid (cycS l = true) := by
                  show _ = _
                  rw [HO.out]
                  refine cycB_yes hlt ?_
                  have := HS.out
                  rw [hxk] at this
                  exact this.hit
                subst hxk
                clear cs cf
                go_wp2
                all_goals
                  go_ret2
                  exact ⟨by rw [HX.out, HGB.out]; rfl, K1.out.trans HWi.out⟩
              · have hxk2 : ((x : Int) == (k : Int)) = false := beq_eq_false_iff_ne.2 (by omega)
                have HXK : Hid (x ≠ k) := hxk
                clear hxk
                have HNT : Hid (N - 1 = (T.map Int.ofNat).length) := by have := HN1.out; show _ = _; rw [List.length_map]; omega
                have HMT : Hid (unseen f l.length * (l.length + 1) + T.length ≤ 10000) := by
                  have h := HME.out
                  rw [List.length_cons] at h
                  show _ ≤ _
                  omega
                by_cases hv1 : 1 < vc
                · have HQT : Hid (Que wr (G + 3) g (q + 1) (vc - 1) (T.map Int.ofNat)) := HQU.out.tail
                  cases hfx : f x with
                  | true =>
                    have HP1 : Hid (Srch (uses l) l.length k f T) := HS.out.pass hfx
                    rw [hfx] at cs
                    go_wp2
                    go_roundw
                    case rel => exact ⟨T, f, _, _, by rw [HNT.out, List.length_map], HP1.out, HBL.out, Or.inr ⟨g, _, rfl, HQT.out⟩, HWi.out, HZ3.out, HMT.out⟩
                    case measure => have := HN1.out; simp only [lenV]; omega
                  | false =>
                    have HF : Hid (f x = false) := hfx
                    rw [hfx] at cs
                    have HB1 : Hid (Bls (wr.setCell ⟨G + 1, x, none⟩ (.bool true)) (G + 1) l.length (fun i => decide (i = x) || f i)) := HBL.out.set x hx (fun i => Bool.or_comm _ _)
                    have HV1 : Hid (Nw w1 (wr.setCell ⟨G + 1, x, none⟩ (.bool true))) := Below.setCell HWi.out (show w1.heap.size ≤ (Addr.mk (G + 1) x none).block from Nat.le_succ_of_le HGZ.out) _
                    have HQ1 : Hid (Que (wr.setCell ⟨G + 1, x, none⟩ (.bool true)) (G + 3) g (q + 1) (vc - 1) (T.map Int.ofNat)) := by
                      have hq := HQT.out
                      have hne : ∀ i, (⟨G + 1, x, none⟩ : Addr) ≠ ⟨g, (q + 1) + i, none⟩ := fun i e => by
                        injection e with e1 _
                        have := hq.own
                        omega
                      exact ⟨hq.own, by simpa using hq.lt, hq.cap, fun i hi => by rw [World.cell?_setCell_other _ _ _ _ (hne i)]; exact hq.cells i hi, fun i hi => by rw [World.cell?_setCell_other _ _ _ _ (hne i), World.frozen?_setCell]; exact hq.room i hi⟩
                    have HZ4 : Hid (G + 3 ≤ (wr.setCell ⟨G + 1, x, none⟩ (.bool true)).heap.size) := by show _ ≤ _; simpa using HZ3.out
                    have HRs : Hid (Nodes (wr.setCell ⟨G + 1, x, none⟩ (.bool true)) (some ⟨b, o, none⟩) l) := HR1.out.nw HV1.out
                    go_wp2_with fail
                    clear cs cf c0'
                    generalize wr.setCell ⟨G + 1, x, none⟩ (.bool true) = ws at *
                    refine Calls.mono (suses _ _ c l x hx HP.out HZ.out HRs.out) ?_
                    rintro e w3 ⟨v3, rfl, hins, hz5, k3⟩
                    have HB3 : Hid (Bls w3 (G + 1) l.length (fun i => decide (i = x) || f i)) := HB1.out.nw k3
                    have HV3 : Hid (Nw w1 w3) := HV1.out.trans k3
                    have HQ3 : Hid (Que w3 (G + 3) g (q + 1) (vc - 1) (T.map Int.ofNat)) := HQ1.out.nw k3
                    have HZ5 : Hid (G + 3 ≤ w3.heap.size) := Nat.le_trans HZ4.out (Nat.le_of_succ_le hz5)
                    obtain ⟨xa, xc, rfl, hsrc⟩ : ∃ xa xc, v3 = .slice xa (usL l x l.length).length xc ∧ ((xa = none ∧ usL l x l.length = []) ∨ ∃ b off, xa = some ⟨b, off, none⟩ ∧ ∀ i, i < (usL l x l.length).length → w3.cell? ⟨b, off + i, none⟩ = some (.int .i64 (intAt (usL l x l.length) i))) := by
                      rcases hins.lay with ⟨h1, h2⟩ | ⟨g3, c3, h1, _, h2⟩
                      · exact ⟨none, 0, by rw [h1, h2]; rfl, Or.inl ⟨rfl, h2⟩⟩
                      · exact ⟨_, c3, h1, Or.inr ⟨g3, 0, rfl, fun i hi => by rw [Nat.zero_add]; exact h2.2.1 i hi⟩⟩
                    have HSRC : Hid ((xa = none ∧ usL l x l.length = []) ∨ ∃ b off, xa = some ⟨b, off, none⟩ ∧ ∀ i, i < (usL l x l.length).length → w3.cell? ⟨b, off + i, none⟩ = some (.int .i64 (intAt (usL l x l.length) i))) := hsrc
                    have husl := usL_len l x l.length
                    have HUN : Hid ((usL l x l.length) = (usN l x).map Int.ofNat) := usN_eq l x
                    have HTK : Hid (Srch (uses l) l.length k (fun i => decide (i = x) || f i) (T ++ usN l x)) := HS.out.take HXK.out (fun i => usN_mem i) (fun i h => uses_lt h) (fun i => rfl)
                    have HUT : Hid (unseen (fun i => decide (i = x) || f i) l.length + 1 = unseen f l.length) := unseen_take HF.out (fun i => rfl) l.length hx
                    clear hins hz5 k3 hsrc hfx
                    go_wp2_with (at_builtin; (refine wp_que _ rfl _ _ rfl (G + 3) g (q + 1) (vc - 1) (T.map Int.ofNat) (usL l x l.length) ?hs xa xc rfl HQ3.out HSRC.out ?hl HZ5.out ?_))
                    case hs => rw [← HNT.out]; rfl
                    case hl => have := HN1.out; rw [List.length_map]; omega
                    intro g' o' c' w' hq' hb'
                    have HQ4 : Hid (Que w' (G + 3) g' o' c' ((T ++ usN l x).map Int.ofNat)) := by rw [List.map_append, ← HUN.out]; exact hq'
                    have HB4 : Hid (Bls w' (G + 1) l.length (fun i => decide (i = x) || f i)) := HB3.out.low hb' (by omega)
                    have HV4 : Hid (Nw w1 w') := Below.trans (show Below w1.heap.size w1 w3 from HV3.out) (Below.mono hb' (by have := HGZ.out; omega))
                    have HZ6 : Hid (G + 3 ≤ w'.heap.size) := Nat.le_trans HZ5.out (Below.size hb')
                    have HLN : Hid ((T.map Int.ofNat).length + (usL l x l.length).length = (T ++ usN l x).length) := by
                      show _ = _
                      rw [HUN.out, List.length_map, List.length_map, List.length_append]
                    have HLE : Hid ((T ++ usN l x).length ≤ T.length + l.length) := by
                      show _ ≤ _
                      rw [List.length_append]
                      have := usN_len l x
                      omega
                    clear hq' hb'
                    go_wp2
                    go_roundw
                    case rel =>
                      refine ⟨T ++ usN l x, fun i => decide (i = x) || f i, _, _, by rw [← HLN.out, List.length_map], HTK.out, HB4.out, Or.inr ⟨g', o', rfl, HQ4.out⟩, HV4.out, HZ6.out, ?_⟩
                      have h1 := HUT.out
                      have h2 := HME.out
                      have h3 := HLE.out
                      rw [← h1, Nat.succ_mul, List.length_cons] at h2
                      omega
                    case measure =>
                      have h1 := HUT.out
                      have h2 := HN1.out
                      have h3 := HLE.out
                      have h4 := HLN.out
                      rw [List.length_map] at h4
                      rw [seenW_eq HB4.out, seenW_eq HBL.out, ← h1, Nat.succ_mul]
                      simp only [lenV]
                      omega
                · have hvc : vc = 1 := by omega
                  have hN1' : N = 1 := by omega
                  have HT0 : Hid (T = []) := List.eq_nil_of_length_eq_zero (by have := HN1.out; omega)
                  obtain rfl := HT0.out
                  subst hvc
                  subst hN1'
                  have HQT : Hid (Que wr (G + 3) g q 0 (([] : List Nat).map Int.ofNat)) := HQU.out.tail.bare rfl
                  cases hfx : f x with
                  | true =>
                    have HP1 : Hid (Srch (uses l) l.length k f []) := HS.out.pass hfx
                    rw [hfx] at cs
                    go_wp2
                    go_roundw
                    case rel => exact ⟨[], f, _, _, rfl, HP1.out, HBL.out, Or.inr ⟨g, _, rfl, HQT.out⟩, HWi.out, HZ3.out, HMT.out⟩
                    case measure => have := HN1.out; simp only [lenV]; omega
                  | false =>
                    have HF : Hid (f x = false) := hfx
                    rw [hfx] at cs
                    have HB1 : Hid (Bls (wr.setCell ⟨G + 1, x, none⟩ (.bool true)) (G + 1) l.length (fun i => decide (i = x) || f i)) := HBL.out.set x hx (fun i => Bool.or_comm _ _)
                    have HV1 : Hid (Nw w1 (wr.setCell ⟨G + 1, x, none⟩ (.bool true))) := Below.setCell HWi.out (show w1.heap.size ≤ (Addr.mk (G + 1) x none).block from Nat.le_succ_of_le HGZ.out) _
                    have HQ1 : Hid (Que (wr.setCell ⟨G + 1, x, none⟩ (.bool true)) (G + 3) g q 0 (([] : List Nat).map Int.ofNat)) := by
                      have hq := HQT.out
                      have hne : ∀ i, (⟨G + 1, x, none⟩ : Addr) ≠ ⟨g, q + i, none⟩ := fun i e => by
                        injection e with e1 _
                        have := hq.own
                        omega
                      exact ⟨hq.own, by simpa using hq.lt, hq.cap, fun i hi => by rw [World.cell?_setCell_other _ _ _ _ (hne i)]; exact hq.cells i hi, fun i hi => by rw [World.cell?_setCell_other _ _ _ _ (hne i), World.frozen?_setCell]; exact hq.room i hi⟩
                    have HZ4 : Hid (G + 3 ≤ (wr.setCell ⟨G + 1, x, none⟩ (.bool true)).heap.size) := by show _ ≤ _; simpa using HZ3.out
                    have HRs : Hid (Nodes (wr.setCell ⟨G + 1, x, none⟩ (.bool true)) (some ⟨b, o, none⟩) l) := HR1.out.nw HV1.out
                    go_wp2_with fail
                    clear cs cf c0'
                    generalize wr.setCell ⟨G + 1, x, none⟩ (.bool true) = ws at *
                    refine Calls.mono (suses _ _ c l x hx HP.out HZ.out HRs.out) ?_
                    rintro e w3 ⟨v3, rfl, hins, hz5, k3⟩
                    have HB3 : Hid (Bls w3 (G + 1) l.length (fun i => decide (i = x) || f i)) := HB1.out.nw k3
                    have HV3 : Hid (Nw w1 w3) := HV1.out.trans k3
                    have HQ3 : Hid (Que w3 (G + 3) g q 0 (([] : List Nat).map Int.ofNat)) := HQ1.out.nw k3
                    have HZ5 : Hid (G + 3 ≤ w3.heap.size) := Nat.le_trans HZ4.out (Nat.le_of_succ_le hz5)
                    obtain ⟨xa, xc, rfl, hsrc⟩ : ∃ xa xc, v3 = .slice xa (usL l x l.length).length xc ∧ ((xa = none ∧ usL l x l.length = []) ∨ ∃ b off, xa = some ⟨b, off, none⟩ ∧ ∀ i, i < (usL l x l.length).length → w3.cell? ⟨b, off + i, none⟩ = some (.int .i64 (intAt (usL l x l.length) i))) := by
                      rcases hins.lay with ⟨h1, h2⟩ | ⟨g3, c3, h1, _, h2⟩
                      · exact ⟨none, 0, by rw [h1, h2]; rfl, Or.inl ⟨rfl, h2⟩⟩
                      · exact ⟨_, c3, h1, Or.inr ⟨g3, 0, rfl, fun i hi => by rw [Nat.zero_add]; exact h2.2.1 i hi⟩⟩
                    have HSRC : Hid ((xa = none ∧ usL l x l.length = []) ∨ ∃ b off, xa = some ⟨b, off, none⟩ ∧ ∀ i, i < (usL l x l.length).length → w3.cell? ⟨b, off + i, none⟩ = some (.int .i64 (intAt (usL l x l.length) i))) := hsrc
                    have husl := usL_len l x l.length
                    have HUN : Hid ((usL l x l.length) = (usN l x).map Int.ofNat) := usN_eq l x
                    have HTK : Hid (Srch (uses l) l.length k (fun i => decide (i = x) || f i) (([] : List Nat) ++ usN l x)) := HS.out.take HXK.out (fun i => usN_mem i) (fun i h => uses_lt h) (fun i => rfl)
                    have HUT : Hid (unseen (fun i => decide (i = x) || f i) l.length + 1 = unseen f l.length) := unseen_take HF.out (fun i => rfl) l.length hx
                    clear hins hz5 k3 hsrc hfx
                    go_wp2_with (at_builtin; (refine wp_que _ rfl _ _ rfl (G + 3) g q 0 (([] : List Nat).map Int.ofNat) (usL l x l.length) ?hs xa xc rfl HQ3.out HSRC.out ?hl HZ5.out ?_))
                    case hs => rfl
                    case hl => have := HN1.out; rw [List.length_map]; omega
                    intro g' o' c' w' hq' hb'
                    have HQ4 : Hid (Que w' (G + 3) g' o' c' ((([] : List Nat) ++ usN l x).map Int.ofNat)) := by rw [List.map_append, ← HUN.out]; exact hq'
                    have HB4 : Hid (Bls w' (G + 1) l.length (fun i => decide (i = x) || f i)) := HB3.out.low hb' (by omega)
                    have HV4 : Hid (Nw w1 w') := Below.trans (show Below w1.heap.size w1 w3 from HV3.out) (Below.mono hb' (by have := HGZ.out; omega))
                    have HZ6 : Hid (G + 3 ≤ w'.heap.size) := Nat.le_trans HZ5.out (Below.size hb')
                    have HLN : Hid ((([] : List Nat).map Int.ofNat).length + (usL l x l.length).length = (([] : List Nat) ++ usN l x).length) := by
                      show _ = _
                      rw [HUN.out, List.length_map, List.length_map, List.length_append]
                    have HLE : Hid ((([] : List Nat) ++ usN l x).length ≤ 0 + l.length) := by
                      show _ ≤ _
                      rw [List.length_append, List.length_nil]
                      have := usN_len l x
                      omega
                    clear hq' hb'
                    go_wp2
                    go_roundw
                    case rel =>
                      refine ⟨([] : List Nat) ++ usN l x, fun i => decide (i = x) || f i, _, _, by rw [← HLN.out, List.length_map, List.length_nil, Nat.zero_add], HTK.out, HB4.out, Or.inr ⟨g', o', rfl, HQ4.out⟩, HV4.out, HZ6.out, ?_⟩
                      have h1 := HUT.out
                      have h2 := HME.out
                      have h3 := HLE.out
                      rw [← h1, Nat.succ_mul, List.length_cons] at h2
                      omega
                    case measure =>
                      have h1 := HUT.out
                      have h2 := HN1.out
                      have h3 := HLE.out
                      have h4 := HLN.out
                      rw [List.length_map, List.length_nil] at h4
                      rw [seenW_eq HB4.out, seenW_eq HBL.out, ← h1, Nat.succ_mul]
                      simp only [lenV]
                      omega
      · have e : k = l.length := by omega
        have hltI : ¬ (k : Int) < l.length := by omega
        have HX : Hid (cycS l = false) := by
          show _ = _
          rw [HO.out]
          exact cycB_no fun j hj => HN.out j (by omega)
        clear hw
        go_wp2
        go_ret2
        exact ⟨by rw [HX.out, HGB.out]; rfl, K1.out.trans HW.out⟩
  · have hg' : goodB l = false := by simpa using hg
    have HO : Hid (cycS l = false) := by show _ = _; unfold cycS; rw [hg']; rfl
    have HGB : Hid (goodB l = false) := hg'
    go_enter Tryd.func14, Tryd.ntmps14
    go_wp2_with (go_at_call 17; refine Calls.mono (sgoodNodes _ _ _ l hl HZ.out HR.out) ?_; rw [hg']; rintro e w1 ⟨rfl, k1⟩)
    go_ret2
    exact ⟨by rw [HO.out, HGB.out]; rfl, k1⟩
end Go.Proofs.YthnmebmjmjfflaaDoor
