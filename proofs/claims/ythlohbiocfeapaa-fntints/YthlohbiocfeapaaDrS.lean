/-
  What the specification's draws of stops, and of the arguments of OverTint and RunAt, answer: some of them; each theorem names its conditions.
-/
import Derived.Test.YthlohbiocfeapaaDrT
import Derived.Test.YthlohbiocfeapaaOwS
namespace Go.Proofs.Ythlohbiocfeapaa
open Go.ChangeShapes Go.WideShapes Go.ChangeAt Go.RowKit
set_option linter.unusedVariables false

theorem OwnS.gr {w w' : World} {B b : Nat} {v : Value} {l : List Stp} (h : OwnS w B v l) (k : Gr b w w') (hb : b < B) : OwnS w' B v l :=
  World.ownsRow.kept h k (Or.inr (fun e => by have := (h.lt b e).1; omega))
theorem three_bd (v : Int) (h : v ∈ [0, 8, 9]) : 0 ≤ v ∧ v ≤ 9 := by
  simp at h
  omega
theorem ext_gr {v v' : Value} {w0 w w' : World} {b : Nat} (h : Gr b w0 w) (e : Ext v v' w w') (hv : ∀ g, v.ownBlock = some g → w0.heap.size ≤ g) : Gr b w0 w' := by
  have h' : w0.grownBy w (some b) := h
  exact ⟨e.1.os.trans h'.os, e.1.tape.trans h'.tape, e.1.output.trans h'.output, Nat.le_trans h'.size e.1.size, fun i hi hne => (e.1.block i (Nat.lt_of_lt_of_le hi h'.size) (fun x => by have := hv i x.symm; omega)).trans (h'.block i hi hne)⟩
set_option maxRecDepth 100000 in
set_option maxHeartbeats 8000000 in
theorem stops_any (w : World) (B : Nat) (ca : Option Addr) (len cap n : Nat) (hl : len ≤ 9223372036854775807) (hn : n ≤ 1000000) (hc : Cur w B ca len cap n) (hd : Code w B ca len) :
    Calls Try.prog 65 #[.pointer (some ⟨B, 0, none⟩)] w fun e w' => ∃ a c, ∃ l : List Stp, e = .returned (.slice a l.length c) ∧ l.length ≤ c ∧ l.length ≤ 9 ∧ Stps w' a l ∧ Gr B w w' := by
  have hB := hc.lt
  have HB : Hid (B < w.heap.size) := hB
  have HC : Hid _ := hc
  have DC : Hid (∀ w', Gr B w w' → Code w' B ca len) := fun w' h => Code.below hd (h.below (by omega))
  clear hc hd hB
  go_enter Try.func65, Try.ntmps65
  go_wp2_with fail
  refine (pick_any w B ca len cap n 4 hl (by omega) (by omega) (by omega) HC.out (DC.out _ (Gr.refl _ _))).mono ?_
  rintro e w1 ⟨v, rfl, v0, v1, hc1, hb1⟩
  have G1 : Hid (Gr B w w1) := Gr.of_sel hb1
  have C1 : Hid (Cur w1 B ca len cap (n + 2)) := hc1
  clear hc1 hb1
  go_wp2_with fail
  refine (one_any w1 B ca len cap (n + 2) 30 hl (by omega) (by omega) (by omega) C1.out (DC.out _ G1.out)).mono ?_
  rintro e w2 ⟨bb, rfl, hc2, hb2⟩
  have G2 : Hid (Gr B w w2) := Gr.trans G1.out (Gr.of_sel hb2)
  have C2 : Hid (Cur w2 B ca len cap (n + 2 + 2)) := hc2
  have B2 : Hid (B < w2.heap.size) := hc2.lt
  clear hc2 hb2
  cases bb with
  | false =>
    obtain ⟨m, hm, hmb⟩ : ∃ m : Nat, 1 + v = (m : Int) ∧ m ≤ 9 := ⟨(1 + v).toNat, by omega, by omega⟩
    have HM : Hid (1 + v = (m : Int)) := hm
    clear hm
    go_wp2
    go_loopw [3, 4, 5] (fun v3 v4 v5 wr => ∃ (k : Nat) (x : Int) (l : List Stp), v5 = .int .i64 (k : Int) ∧ v4 = .int .i64 x ∧ 0 ≤ x ∧ x ≤ 65536 ∧ l.length + k ≤ 9 ∧ OwnS wr w.heap.size v3 l ∧ Cur wr B ca len cap (n + 6 + 22 * (9 - k)) ∧ Gr B w wr) (fun _ _ i _ => (intOf i).toNat)
    case atStart => exact ⟨m, 0, [], by rw [← HM.out], rfl, by omega, by omega, by simpa using hmb, OwnS.nil _ _, Cur.mono C2.out (by omega), G2.out⟩
    case round =>
      obtain ⟨k, x, l, rfl, rfl, hx0, hx1, hlk, ho, hcr, hgr⟩ := hrel
      have HO : Hid (OwnS wr w.heap.size u3 l) := ho
      have HCR : Hid _ := hcr
      have HGR : Hid (Gr B w wr) := hgr
      clear ho hcr hgr
      by_cases hk0 : 0 < k
      · have dk : decide ((0 : Int) < (k : Int)) = true := by simp; omega
        go_wp2_with fail
        refine (pick_any wr B ca len cap (n + 6 + 22 * (9 - k)) 4 hl (by omega) (by omega) (by omega) HCR.out (DC.out _ HGR.out)).mono ?_
        rintro e w4 ⟨y, rfl, y0, y1, hc4, hb4⟩
        have G4 : Hid (Gr B w w4) := Gr.trans HGR.out (Gr.of_sel hb4)
        have C4 : Hid (Cur w4 B ca len cap (n + 6 + 22 * (9 - k) + 2)) := hc4
        have O4 : Hid (OwnS w4 w.heap.size u3 l) := HO.out.gr (Gr.of_sel hb4) HB.out
        clear hc4 hb4
        obtain ⟨X, hX, hX0, hX1⟩ : ∃ X : Int, (if 65536 < x + y * 8192 then 65536 else x + y * 8192) = X ∧ 0 ≤ X ∧ X ≤ 65536 := ⟨_, rfl, by split <;> omega, by split <;> omega⟩
        have HT : Hid _ := tint_any w4 B ca len cap (n + 6 + 22 * (9 - k) + 2) hl (by omega) C4.out (DC.out _ G4.out)
        by_cases hbig : 65536 < x + y * 8192
        · rw [if_pos hbig] at hX
          have dX : decide ((65536 : Int) < x + y * 8192) = true := decide_eq_true hbig
          subst hX
          clear hbig
          go_wp2_with fail
          refine Calls.mono HT.out ?_
          rintro e w5 ⟨t, rfl, hc5, hg5⟩
          have G5 : Hid (Gr B w w5) := Gr.trans G4.out hg5
          have C5 : Hid (Cur w5 B ca len cap (n + 6 + 22 * (9 - k) + 2 + 20)) := hc5
          have O5 : Hid (OwnS w5 w.heap.size u3 l) := O4.out.gr hg5 HB.out
          have Z5 : Hid (w.heap.size ≤ w5.heap.size) := G5.out.size
          have B5 : Hid (B < w5.heap.size) := hc5.lt
          clear hc5 hg5
          obtain ⟨t0, t1, t2, t3⟩ := t
          unfold edV
          simp only
          go_wp2_with (first
            | (at_builtin; (refine wpl_s _ rfl _ _ rfl w.heap.size u3 l ⟨65536, ⟨t0, t1, t2, t3⟩⟩ rfl (O5.out.nw ((Below.refl _ _).alloc (Nat.le_refl _) _)) w5.heap.size rfl ⟨by simp, by simp, by simp, by simp, by simp⟩ (by omega) (by have := Z5.out; simp; omega) ?_))
            | go_in)
          intro v6 w6 h1 h2
          have O6 : Hid (OwnS w6 w.heap.size v6 (l ++ [⟨65536, ⟨t0, t1, t2, t3⟩⟩])) := h1
          have G6 : Hid (Gr B w w6) := ext_gr (G5.out.alloc _) h2 (fun g e => (O5.out.lt g e).1)
          have C6 : Hid (Cur w6 B ca len cap (n + 6 + 22 * (9 - k) + 2 + 20)) := by
            obtain ⟨k', sd, q1, q2, q3, c0, c1, c2, hf, hBB⟩ := C5.out.alloc #[.int .i64 65536, .int .i64 t0, .int .i64 t1, .int .i64 t2, .int .i64 t3] 106
            have hne : u3.ownBlock ≠ some B := fun e => by have := (O5.out.lt B e).1; have := HB.out; omega
            have e := fun o => Ext.cell h2 hBB hne o
            exact ⟨k', sd, q1, q2, q3, (e _).trans c0, (e _).trans c1, (e _).trans c2, fun o => (World.frozen?_of_block (a := ⟨B, o, none⟩) (h2.1.block B hBB (fun x => hne x.symm))).trans (hf o), Nat.lt_of_lt_of_le hBB h2.size⟩
          clear h1 h2
          obtain ⟨k2, hk2⟩ : ∃ k2, k = k2 + 1 := ⟨k - 1, by omega⟩
          subst hk2
          go_wp2
          go_roundw
          case rel => exact ⟨k2, 65536, l ++ [⟨65536, ⟨t0, t1, t2, t3⟩⟩], by go_num, rfl, hX0, hX1, by simp; omega, O6.out, Cur.mono C6.out (by omega), G6.out⟩
          case measure => simp [intOf]
        · rw [if_neg hbig] at hX
          have dX : decide ((65536 : Int) < x + y * 8192) = false := decide_eq_false hbig
          subst hX
          clear hbig
          go_wp2_with fail
          refine Calls.mono HT.out ?_
          rintro e w5 ⟨t, rfl, hc5, hg5⟩
          have G5 : Hid (Gr B w w5) := Gr.trans G4.out hg5
          have C5 : Hid (Cur w5 B ca len cap (n + 6 + 22 * (9 - k) + 2 + 20)) := hc5
          have O5 : Hid (OwnS w5 w.heap.size u3 l) := O4.out.gr hg5 HB.out
          have Z5 : Hid (w.heap.size ≤ w5.heap.size) := G5.out.size
          have B5 : Hid (B < w5.heap.size) := hc5.lt
          clear hc5 hg5
          obtain ⟨t0, t1, t2, t3⟩ := t
          unfold edV
          simp only
          go_wp2_with (first
            | (at_builtin; (refine wpl_s _ rfl _ _ rfl w.heap.size u3 l ⟨(x + y * 8192), ⟨t0, t1, t2, t3⟩⟩ rfl (O5.out.nw ((Below.refl _ _).alloc (Nat.le_refl _) _)) w5.heap.size rfl ⟨by simp, by simp, by simp, by simp, by simp⟩ (by omega) (by have := Z5.out; simp; omega) ?_))
            | go_in)
          intro v6 w6 h1 h2
          have O6 : Hid (OwnS w6 w.heap.size v6 (l ++ [⟨(x + y * 8192), ⟨t0, t1, t2, t3⟩⟩])) := h1
          have G6 : Hid (Gr B w w6) := ext_gr (G5.out.alloc _) h2 (fun g e => (O5.out.lt g e).1)
          have C6 : Hid (Cur w6 B ca len cap (n + 6 + 22 * (9 - k) + 2 + 20)) := by
            obtain ⟨k', sd, q1, q2, q3, c0, c1, c2, hf, hBB⟩ := C5.out.alloc #[.int .i64 (x + y * 8192), .int .i64 t0, .int .i64 t1, .int .i64 t2, .int .i64 t3] 106
            have hne : u3.ownBlock ≠ some B := fun e => by have := (O5.out.lt B e).1; have := HB.out; omega
            have e := fun o => Ext.cell h2 hBB hne o
            exact ⟨k', sd, q1, q2, q3, (e _).trans c0, (e _).trans c1, (e _).trans c2, fun o => (World.frozen?_of_block (a := ⟨B, o, none⟩) (h2.1.block B hBB (fun x => hne x.symm))).trans (hf o), Nat.lt_of_lt_of_le hBB h2.size⟩
          clear h1 h2
          obtain ⟨k2, hk2⟩ : ∃ k2, k = k2 + 1 := ⟨k - 1, by omega⟩
          subst hk2
          go_wp2
          go_roundw
          case rel => exact ⟨k2, (x + y * 8192), l ++ [⟨(x + y * 8192), ⟨t0, t1, t2, t3⟩⟩], by go_num, rfl, hX0, hX1, by simp; omega, O6.out, Cur.mono C6.out (by omega), G6.out⟩
          case measure => simp [intOf]
      · have hk1 : k = 0 := by omega
        subst hk1
        obtain ⟨a, c, rfl, hac, hst, hfz⟩ := HO.out.stps
        have HST : Hid (Stps wr a l) := hst
        clear hst
        go_wp2_with fail
        refine (one_any wr B ca len cap (n + 6 + 22 * (9 - 0)) 40 hl (by omega) (by omega) (by omega) HCR.out (DC.out _ HGR.out)).mono ?_
        rintro e w5 ⟨b5, rfl, hc5, hb5⟩
        have G5s : Hid (Gr B wr w5) := Gr.of_sel hb5
        have G5 : Hid (Gr B w w5) := Gr.trans HGR.out (Gr.of_sel hb5)
        have C5 : Hid (Cur w5 B ca len cap (n + 6 + 22 * (9 - 0) + 2)) := hc5
        have B5 : Hid (B < w5.heap.size) := hc5.lt
        have O5 : Hid (OwnS w5 w.heap.size (.slice a l.length c) l) := HO.out.gr (Gr.of_sel hb5) HB.out
        clear hc5 hb5
        have HS5 : Hid (Stps w5 a l) := by
          obtain ⟨a', c', e', _, h, _⟩ := O5.out.stps
          injection e' with e1 e2 e3
          subst e1
          exact h
        have hll : l.length ≤ 9 := by omega
        cases b5 with
        | false =>
          go_wp2
          go_ret
          exact ⟨a, c, l, rfl, hac, hll, HS5.out, G5.out⟩
        | true =>
          cases l with
          | nil =>
            have dl : decide (((([] : List Stp).length : Nat) : Int) > 0) = false := by simp
            go_wp2
            go_ret
            exact ⟨a, c, [], rfl, hac, hll, HS5.out, G5.out⟩
          | cons s0 l' =>
            obtain ⟨g, rfl, hg1, hg2, hgf⟩ := hfz (by simp)
            have HSS : Hid _ := HS5.out
            have HAC : Hid _ := hac
            have HLL : Hid _ := hll
            have HGF : Hid (∀ o, w5.frozen? ⟨g, o, none⟩ = false) := fun o => (G5s.out.frozen hg2 (by have := HB.out; omega) o).trans (hgf o)
            have HGL : Hid (w.heap.size ≤ g ∧ g < w5.heap.size) := ⟨hg1, Nat.lt_of_lt_of_le hg2 G5s.out.size⟩
            have hnn : 0 < (s0 :: l').length := by simp
            have HNL : Hid (0 < (s0 :: l').length) := hnn
            clear hg1 hg2 hgf hfz hac hll hnn
            generalize hL : s0 :: l' = L at *
            clear hL
            have dl : decide ((0 : Int) < (L.length : Int)) = true := by have := HNL.out; simp; omega
            go_wp2_with fail
            refine (among_any _ B w5.heap.size 3 [-1, 65537, 65536] rfl ca len cap (n + 6 + 22 * (9 - 0) + 2) hl (by omega) (by omega) (by omega) (by have := B5.out; omega) (nums_alloc [-1, 65537, 65536] w5 3) (C5.out.alloc _ _) (Code.alloc (DC.out _ G5.out) (by have := B5.out; omega) _)).mono ?_
            rintro e w6 ⟨x6, rfl, _, hc6, hb6⟩
            have g6 : Gr B w5 w6 := ((Gr.refl B w5).alloc _).trans (Gr.of_sel hb6)
            have hgB : g ≠ B := by have := HB.out; have := HGL.out; omega
            have f6 : ∀ o, w6.frozen? ⟨g, o, none⟩ = false := fun o => (g6.frozen HGL.out.2 hgB o).trans (HGF.out o)
            have G6 : Hid (Gr B w (w6.setCell ⟨g, 0, none⟩ (.int .i64 x6))) := (Gr.trans G5.out g6).set HGL.out.1 _ _
            obtain ⟨z, hz⟩ : ∃ z, w6.cell? ⟨g, 0, none⟩ = some z := by
              rcases HSS.out with h | ⟨b', o', e', hb', h⟩
              · have := HNL.out; rw [h] at this; simp at this
              · injection e' with e'; injection e' with e1 e2
                subst e1 e2
                have h0 := (h 0 HNL.out).1
                simp only [Nat.zero_mul, Nat.add_zero] at h0
                exact ⟨_, (g6.cell HGL.out.2 hgB 0).trans h0⟩
            have S6 : Hid (∃ L2 : List Stp, L2.length = L.length ∧ Stps (w6.setCell ⟨g, 0, none⟩ (.int .i64 x6)) (some ⟨g, 0, none⟩) L2) := by
              show ∃ _, _
              refine ⟨L.set 0 ⟨x6, (spAt L 0).t⟩, by simp, ?_⟩
              rcases HSS.out with h | ⟨b', o', e', hb', h⟩
              · have := HNL.out; rw [h] at this; simp at this
              · injection e' with e'; injection e' with e1 e2
                subst e1 e2
                refine Or.inr ⟨_, 0, rfl, by have := g6.size; simp [World.setCell]; omega, fun i hi => ?_⟩
                have hi' : i < L.length := by simpa using hi
                obtain ⟨h0, h1, h2, h3, h4⟩ := h i hi'
                have keep : ∀ o'' u, o'' ≠ 0 → w5.cell? ⟨g, o'', none⟩ = u → (w6.setCell ⟨g, 0, none⟩ (.int .i64 x6)).cell? ⟨g, o'', none⟩ = u := fun o'' u hne hu => by
                  rw [World.cell?_setCell_other _ _ _ _ (fun e => by injection e; omega), g6.cell HGL.out.2 hgB]
                  exact hu
                by_cases hi0 : i = 0
                · subst hi0
                  have es : spAt (L.set 0 ⟨x6, (spAt L 0).t⟩) 0 = ⟨x6, (spAt L 0).t⟩ := by simp [spAt, hi']
                  rw [es]
                  refine ⟨?_, keep _ _ (by omega) h1, keep _ _ (by omega) h2, keep _ _ (by omega) h3, keep _ _ (by omega) h4⟩
                  simp only [Nat.zero_mul, Nat.add_zero]
                  exact World.cell?_setCell_same w6 ⟨g, 0, none⟩ _ hz
                · have es : spAt (L.set 0 ⟨x6, (spAt L 0).t⟩) i = spAt L i := by
                    unfold spAt
                    rw [List.getD_eq_getElem?_getD, List.getElem?_set_ne (by omega), ← List.getD_eq_getElem?_getD]
                  rw [es]
                  exact ⟨keep _ _ (by omega) h0, keep _ _ (by omega) h1, keep _ _ (by omega) h2, keep _ _ (by omega) h3, keep _ _ (by omega) h4⟩
            obtain ⟨L2, hL2, hs2⟩ := S6.out
            have HS2 : Hid _ := hs2
            have HL2 : Hid _ := hL2
            clear hc6 hb6 g6 S6 hs2 hL2
            have hnl := HNL.out
            go_wp2
            go_ret
            exact ⟨some ⟨g, 0, none⟩, c, L2, by rw [HL2.out]; rfl, by rw [HL2.out]; exact HAC.out, by rw [HL2.out]; exact HLL.out, HS2.out, G6.out⟩
  | true =>
    go_wp2_with fail
    refine (among_any _ B w2.heap.size 3 [0, 8, 9] rfl ca len cap (n + 2 + 2) hl (by omega) (by omega) (by omega) (by have := B2.out; omega) (nums_alloc [0, 8, 9] w2 3) (C2.out.alloc _ _) (Code.alloc (DC.out _ G2.out) (by have := B2.out; omega) _)).mono ?_
    rintro e w3 ⟨mm, rfl, hm, hc3, hb3⟩
    have mb := three_bd mm hm
    have G3 : Hid (Gr B w w3) := Gr.trans G2.out (((Gr.refl B w2).alloc _).trans (Gr.of_sel hb3))
    have C3 : Hid (Cur w3 B ca len cap (n + 2 + 2 + 2)) := hc3
    clear hm hc3 hb3
    obtain ⟨m, hm, hmb⟩ : ∃ m : Nat, mm = (m : Int) ∧ m ≤ 9 := ⟨(mm).toNat, by omega, by omega⟩
    have HM : Hid (mm = (m : Int)) := hm
    clear hm
    go_wp2
    go_loopw [3, 4, 5] (fun v3 v4 v5 wr => ∃ (k : Nat) (x : Int) (l : List Stp), v5 = .int .i64 (k : Int) ∧ v4 = .int .i64 x ∧ 0 ≤ x ∧ x ≤ 65536 ∧ l.length + k ≤ 9 ∧ OwnS wr w.heap.size v3 l ∧ Cur wr B ca len cap (n + 6 + 22 * (9 - k)) ∧ Gr B w wr) (fun _ _ i _ => (intOf i).toNat)
    case atStart => exact ⟨m, 0, [], by rw [← HM.out], rfl, by omega, by omega, by simpa using hmb, OwnS.nil _ _, Cur.mono C3.out (by omega), G3.out⟩
    case round =>
      obtain ⟨k, x, l, rfl, rfl, hx0, hx1, hlk, ho, hcr, hgr⟩ := hrel
      have HO : Hid (OwnS wr w.heap.size u3 l) := ho
      have HCR : Hid _ := hcr
      have HGR : Hid (Gr B w wr) := hgr
      clear ho hcr hgr
      by_cases hk0 : 0 < k
      · have dk : decide ((0 : Int) < (k : Int)) = true := by simp; omega
        go_wp2_with fail
        refine (pick_any wr B ca len cap (n + 6 + 22 * (9 - k)) 4 hl (by omega) (by omega) (by omega) HCR.out (DC.out _ HGR.out)).mono ?_
        rintro e w4 ⟨y, rfl, y0, y1, hc4, hb4⟩
        have G4 : Hid (Gr B w w4) := Gr.trans HGR.out (Gr.of_sel hb4)
        have C4 : Hid (Cur w4 B ca len cap (n + 6 + 22 * (9 - k) + 2)) := hc4
        have O4 : Hid (OwnS w4 w.heap.size u3 l) := HO.out.gr (Gr.of_sel hb4) HB.out
        clear hc4 hb4
        obtain ⟨X, hX, hX0, hX1⟩ : ∃ X : Int, (if 65536 < x + y * 8192 then 65536 else x + y * 8192) = X ∧ 0 ≤ X ∧ X ≤ 65536 := ⟨_, rfl, by split <;> omega, by split <;> omega⟩
        have HT : Hid _ := tint_any w4 B ca len cap (n + 6 + 22 * (9 - k) + 2) hl (by omega) C4.out (DC.out _ G4.out)
        by_cases hbig : 65536 < x + y * 8192
        · rw [if_pos hbig] at hX
          have dX : decide ((65536 : Int) < x + y * 8192) = true := decide_eq_true hbig
          subst hX
          clear hbig
          go_wp2_with fail
          refine Calls.mono HT.out ?_
          rintro e w5 ⟨t, rfl, hc5, hg5⟩
          have G5 : Hid (Gr B w w5) := Gr.trans G4.out hg5
          have C5 : Hid (Cur w5 B ca len cap (n + 6 + 22 * (9 - k) + 2 + 20)) := hc5
          have O5 : Hid (OwnS w5 w.heap.size u3 l) := O4.out.gr hg5 HB.out
          have Z5 : Hid (w.heap.size ≤ w5.heap.size) := G5.out.size
          have B5 : Hid (B < w5.heap.size) := hc5.lt
          clear hc5 hg5
          obtain ⟨t0, t1, t2, t3⟩ := t
          unfold edV
          simp only
          go_wp2_with (first
            | (at_builtin; (refine wpl_s _ rfl _ _ rfl w.heap.size u3 l ⟨65536, ⟨t0, t1, t2, t3⟩⟩ rfl (O5.out.nw ((Below.refl _ _).alloc (Nat.le_refl _) _)) w5.heap.size rfl ⟨by simp, by simp, by simp, by simp, by simp⟩ (by omega) (by have := Z5.out; simp; omega) ?_))
            | go_in)
          intro v6 w6 h1 h2
          have O6 : Hid (OwnS w6 w.heap.size v6 (l ++ [⟨65536, ⟨t0, t1, t2, t3⟩⟩])) := h1
          have G6 : Hid (Gr B w w6) := ext_gr (G5.out.alloc _) h2 (fun g e => (O5.out.lt g e).1)
          have C6 : Hid (Cur w6 B ca len cap (n + 6 + 22 * (9 - k) + 2 + 20)) := by
            obtain ⟨k', sd, q1, q2, q3, c0, c1, c2, hf, hBB⟩ := C5.out.alloc #[.int .i64 65536, .int .i64 t0, .int .i64 t1, .int .i64 t2, .int .i64 t3] 106
            have hne : u3.ownBlock ≠ some B := fun e => by have := (O5.out.lt B e).1; have := HB.out; omega
            have e := fun o => Ext.cell h2 hBB hne o
            exact ⟨k', sd, q1, q2, q3, (e _).trans c0, (e _).trans c1, (e _).trans c2, fun o => (World.frozen?_of_block (a := ⟨B, o, none⟩) (h2.1.block B hBB (fun x => hne x.symm))).trans (hf o), Nat.lt_of_lt_of_le hBB h2.size⟩
          clear h1 h2
          obtain ⟨k2, hk2⟩ : ∃ k2, k = k2 + 1 := ⟨k - 1, by omega⟩
          subst hk2
          go_wp2
          go_roundw
          case rel => exact ⟨k2, 65536, l ++ [⟨65536, ⟨t0, t1, t2, t3⟩⟩], by go_num, rfl, hX0, hX1, by simp; omega, O6.out, Cur.mono C6.out (by omega), G6.out⟩
          case measure => simp [intOf]
        · rw [if_neg hbig] at hX
          have dX : decide ((65536 : Int) < x + y * 8192) = false := decide_eq_false hbig
          subst hX
          clear hbig
          go_wp2_with fail
          refine Calls.mono HT.out ?_
          rintro e w5 ⟨t, rfl, hc5, hg5⟩
          have G5 : Hid (Gr B w w5) := Gr.trans G4.out hg5
          have C5 : Hid (Cur w5 B ca len cap (n + 6 + 22 * (9 - k) + 2 + 20)) := hc5
          have O5 : Hid (OwnS w5 w.heap.size u3 l) := O4.out.gr hg5 HB.out
          have Z5 : Hid (w.heap.size ≤ w5.heap.size) := G5.out.size
          have B5 : Hid (B < w5.heap.size) := hc5.lt
          clear hc5 hg5
          obtain ⟨t0, t1, t2, t3⟩ := t
          unfold edV
          simp only
          go_wp2_with (first
            | (at_builtin; (refine wpl_s _ rfl _ _ rfl w.heap.size u3 l ⟨(x + y * 8192), ⟨t0, t1, t2, t3⟩⟩ rfl (O5.out.nw ((Below.refl _ _).alloc (Nat.le_refl _) _)) w5.heap.size rfl ⟨by simp, by simp, by simp, by simp, by simp⟩ (by omega) (by have := Z5.out; simp; omega) ?_))
            | go_in)
          intro v6 w6 h1 h2
          have O6 : Hid (OwnS w6 w.heap.size v6 (l ++ [⟨(x + y * 8192), ⟨t0, t1, t2, t3⟩⟩])) := h1
          have G6 : Hid (Gr B w w6) := ext_gr (G5.out.alloc _) h2 (fun g e => (O5.out.lt g e).1)
          have C6 : Hid (Cur w6 B ca len cap (n + 6 + 22 * (9 - k) + 2 + 20)) := by
            obtain ⟨k', sd, q1, q2, q3, c0, c1, c2, hf, hBB⟩ := C5.out.alloc #[.int .i64 (x + y * 8192), .int .i64 t0, .int .i64 t1, .int .i64 t2, .int .i64 t3] 106
            have hne : u3.ownBlock ≠ some B := fun e => by have := (O5.out.lt B e).1; have := HB.out; omega
            have e := fun o => Ext.cell h2 hBB hne o
            exact ⟨k', sd, q1, q2, q3, (e _).trans c0, (e _).trans c1, (e _).trans c2, fun o => (World.frozen?_of_block (a := ⟨B, o, none⟩) (h2.1.block B hBB (fun x => hne x.symm))).trans (hf o), Nat.lt_of_lt_of_le hBB h2.size⟩
          clear h1 h2
          obtain ⟨k2, hk2⟩ : ∃ k2, k = k2 + 1 := ⟨k - 1, by omega⟩
          subst hk2
          go_wp2
          go_roundw
          case rel => exact ⟨k2, (x + y * 8192), l ++ [⟨(x + y * 8192), ⟨t0, t1, t2, t3⟩⟩], by go_num, rfl, hX0, hX1, by simp; omega, O6.out, Cur.mono C6.out (by omega), G6.out⟩
          case measure => simp [intOf]
      · have hk1 : k = 0 := by omega
        subst hk1
        obtain ⟨a, c, rfl, hac, hst, hfz⟩ := HO.out.stps
        have HST : Hid (Stps wr a l) := hst
        clear hst
        go_wp2_with fail
        refine (one_any wr B ca len cap (n + 6 + 22 * (9 - 0)) 40 hl (by omega) (by omega) (by omega) HCR.out (DC.out _ HGR.out)).mono ?_
        rintro e w5 ⟨b5, rfl, hc5, hb5⟩
        have G5s : Hid (Gr B wr w5) := Gr.of_sel hb5
        have G5 : Hid (Gr B w w5) := Gr.trans HGR.out (Gr.of_sel hb5)
        have C5 : Hid (Cur w5 B ca len cap (n + 6 + 22 * (9 - 0) + 2)) := hc5
        have B5 : Hid (B < w5.heap.size) := hc5.lt
        have O5 : Hid (OwnS w5 w.heap.size (.slice a l.length c) l) := HO.out.gr (Gr.of_sel hb5) HB.out
        clear hc5 hb5
        have HS5 : Hid (Stps w5 a l) := by
          obtain ⟨a', c', e', _, h, _⟩ := O5.out.stps
          injection e' with e1 e2 e3
          subst e1
          exact h
        have hll : l.length ≤ 9 := by omega
        cases b5 with
        | false =>
          go_wp2
          go_ret
          exact ⟨a, c, l, rfl, hac, hll, HS5.out, G5.out⟩
        | true =>
          cases l with
          | nil =>
            have dl : decide (((([] : List Stp).length : Nat) : Int) > 0) = false := by simp
            go_wp2
            go_ret
            exact ⟨a, c, [], rfl, hac, hll, HS5.out, G5.out⟩
          | cons s0 l' =>
            obtain ⟨g, rfl, hg1, hg2, hgf⟩ := hfz (by simp)
            have HSS : Hid _ := HS5.out
            have HAC : Hid _ := hac
            have HLL : Hid _ := hll
            have HGF : Hid (∀ o, w5.frozen? ⟨g, o, none⟩ = false) := fun o => (G5s.out.frozen hg2 (by have := HB.out; omega) o).trans (hgf o)
            have HGL : Hid (w.heap.size ≤ g ∧ g < w5.heap.size) := ⟨hg1, Nat.lt_of_lt_of_le hg2 G5s.out.size⟩
            have hnn : 0 < (s0 :: l').length := by simp
            have HNL : Hid (0 < (s0 :: l').length) := hnn
            clear hg1 hg2 hgf hfz hac hll hnn
            generalize hL : s0 :: l' = L at *
            clear hL
            have dl : decide ((0 : Int) < (L.length : Int)) = true := by have := HNL.out; simp; omega
            go_wp2_with fail
            refine (among_any _ B w5.heap.size 3 [-1, 65537, 65536] rfl ca len cap (n + 6 + 22 * (9 - 0) + 2) hl (by omega) (by omega) (by omega) (by have := B5.out; omega) (nums_alloc [-1, 65537, 65536] w5 3) (C5.out.alloc _ _) (Code.alloc (DC.out _ G5.out) (by have := B5.out; omega) _)).mono ?_
            rintro e w6 ⟨x6, rfl, _, hc6, hb6⟩
            have g6 : Gr B w5 w6 := ((Gr.refl B w5).alloc _).trans (Gr.of_sel hb6)
            have hgB : g ≠ B := by have := HB.out; have := HGL.out; omega
            have f6 : ∀ o, w6.frozen? ⟨g, o, none⟩ = false := fun o => (g6.frozen HGL.out.2 hgB o).trans (HGF.out o)
            have G6 : Hid (Gr B w (w6.setCell ⟨g, 0, none⟩ (.int .i64 x6))) := (Gr.trans G5.out g6).set HGL.out.1 _ _
            obtain ⟨z, hz⟩ : ∃ z, w6.cell? ⟨g, 0, none⟩ = some z := by
              rcases HSS.out with h | ⟨b', o', e', hb', h⟩
              · have := HNL.out; rw [h] at this; simp at this
              · injection e' with e'; injection e' with e1 e2
                subst e1 e2
                have h0 := (h 0 HNL.out).1
                simp only [Nat.zero_mul, Nat.add_zero] at h0
                exact ⟨_, (g6.cell HGL.out.2 hgB 0).trans h0⟩
            have S6 : Hid (∃ L2 : List Stp, L2.length = L.length ∧ Stps (w6.setCell ⟨g, 0, none⟩ (.int .i64 x6)) (some ⟨g, 0, none⟩) L2) := by
              show ∃ _, _
              refine ⟨L.set 0 ⟨x6, (spAt L 0).t⟩, by simp, ?_⟩
              rcases HSS.out with h | ⟨b', o', e', hb', h⟩
              · have := HNL.out; rw [h] at this; simp at this
              · injection e' with e'; injection e' with e1 e2
                subst e1 e2
                refine Or.inr ⟨_, 0, rfl, by have := g6.size; simp [World.setCell]; omega, fun i hi => ?_⟩
                have hi' : i < L.length := by simpa using hi
                obtain ⟨h0, h1, h2, h3, h4⟩ := h i hi'
                have keep : ∀ o'' u, o'' ≠ 0 → w5.cell? ⟨g, o'', none⟩ = u → (w6.setCell ⟨g, 0, none⟩ (.int .i64 x6)).cell? ⟨g, o'', none⟩ = u := fun o'' u hne hu => by
                  rw [World.cell?_setCell_other _ _ _ _ (fun e => by injection e; omega), g6.cell HGL.out.2 hgB]
                  exact hu
                by_cases hi0 : i = 0
                · subst hi0
                  have es : spAt (L.set 0 ⟨x6, (spAt L 0).t⟩) 0 = ⟨x6, (spAt L 0).t⟩ := by simp [spAt, hi']
                  rw [es]
                  refine ⟨?_, keep _ _ (by omega) h1, keep _ _ (by omega) h2, keep _ _ (by omega) h3, keep _ _ (by omega) h4⟩
                  simp only [Nat.zero_mul, Nat.add_zero]
                  exact World.cell?_setCell_same w6 ⟨g, 0, none⟩ _ hz
                · have es : spAt (L.set 0 ⟨x6, (spAt L 0).t⟩) i = spAt L i := by
                    unfold spAt
                    rw [List.getD_eq_getElem?_getD, List.getElem?_set_ne (by omega), ← List.getD_eq_getElem?_getD]
                  rw [es]
                  exact ⟨keep _ _ (by omega) h0, keep _ _ (by omega) h1, keep _ _ (by omega) h2, keep _ _ (by omega) h3, keep _ _ (by omega) h4⟩
            obtain ⟨L2, hL2, hs2⟩ := S6.out
            have HS2 : Hid _ := hs2
            have HL2 : Hid _ := hL2
            clear hc6 hb6 g6 S6 hs2 hL2
            have hnl := HNL.out
            go_wp2
            go_ret
            exact ⟨some ⟨g, 0, none⟩, c, L2, by rw [HL2.out]; rfl, by rw [HL2.out]; exact HAC.out, by rw [HL2.out]; exact HLL.out, HS2.out, G6.out⟩
set_option maxRecDepth 100000 in
set_option maxHeartbeats 4000000 in
theorem drawOver_any (w : World) (ca : Option Addr) (len cap : Nat) (hl : len ≤ 9223372036854775807) (hd : Code w w.heap.size ca len) :
    Calls Try.prog 15 #[.slice ca len cap] w fun e w' => ∃ a b : Edg, e = .returned (.tuple #[edV a, edV b]) ∧ Nw w w' := by
  obtain ⟨W, hW⟩ : ∃ W, ((w.alloc (.cells #[.int .i64 0, .int .i64 0, .int .i64 0, .int .i64 0] 24)).alloc (.cells #[.int .i64 0, .int .i64 0, .int .i64 0, .int .i64 0] 24)).alloc (.cells #[.slice ca len cap, .int .i64 0, .int .u64 0] 88) = W := ⟨_, rfl⟩
  have NW : Hid (Nw w W) := by show Nw _ _; rw [← hW]; exact Nw.trans (QBnw _ _) (Nw.trans (QBnw _ _) (QBnw _ _))
  have Z0 : Hid (QB W w.heap.size noE) := by show QB _ _ _; rw [← hW]; exact ((QB.new w noE _).nw (QBnw _ _)).nw (QBnw _ _)
  have Z1 : Hid (QB W (w.heap.size + 1) noE) := by
    show QB _ _ _
    rw [← hW]
    have := QB.new (w.alloc (.cells #[.int .i64 0, .int .i64 0, .int .i64 0, .int .i64 0] 24)) noE 24
    simp only [World.size_alloc] at this
    exact this.nw (QBnw _ _)
  have C0 : Hid (Cur W (w.heap.size + 1 + 1) ca len cap 0) := by
    have h : ∀ w : World, Cur (w.alloc (.cells #[.slice ca len cap, .int .i64 0, .int .u64 0] 88)) w.heap.size ca len cap 0 := fun w => ⟨0, 0, by omega, by omega, by omega, by simp, by simp, by simp, fun o => World.frozen?_alloc_at _ _ _ _ rfl, by simp⟩
    have h2 := h ((w.alloc (.cells #[.int .i64 0, .int .i64 0, .int .i64 0, .int .i64 0] 24)).alloc (.cells #[.int .i64 0, .int .i64 0, .int .i64 0, .int .i64 0] 24))
    simp only [World.size_alloc] at h2
    show Cur _ _ _ _ _ _
    rw [← hW]
    exact h2
  have D0 : Hid (∀ w', Nw w w' → Code w' (w.heap.size + 1 + 1) ca len) := fun w' h => by
    rcases Code.below hd h with h0 | ⟨b, off, e, hb, h3⟩
    · exact Or.inl h0
    · exact Or.inr ⟨b, off, e, by omega, h3⟩
  have HW : Hid (_ = W) := hW
  clear hW hd
  go_enter Try.func15, Try.ntmps15
  go_wp2_with fail
  rw [HW.out]
  refine (tint_any W (w.heap.size + 1 + 1) ca len cap 0 hl (by omega) C0.out (D0.out _ NW.out)).mono ?_
  rintro e w1 ⟨a, rfl, hc1, hg1⟩
  have G1 : Hid (Gr (w.heap.size + 1 + 1) W w1) := hg1
  have C1 : Hid (Cur w1 (w.heap.size + 1 + 1) ca len cap (0 + 20)) := hc1
  have hs : w.heap.size + 1 + 1 ≤ W.heap.size := by have := C0.out.lt; omega
  have N1 : Hid (Nw w w1) := Below.trans NW.out (Below.mono (hg1.below hs) (by omega))
  clear hc1 hg1
  go_wp2_with fail
  refine (tint_any w1 (w.heap.size + 1 + 1) ca len cap (0 + 20) hl (by omega) C1.out (D0.out _ N1.out)).mono ?_
  rintro e w2 ⟨b, rfl, hc2, hg2⟩
  have G2 : Hid (Gr (w.heap.size + 1 + 1) W w2) := G1.out.trans hg2
  have N2 : Hid (Nw w w2) := Below.trans NW.out (Below.mono (G2.out.below hs) (by omega))
  clear hc2 hg2 hs
  obtain ⟨z0, z1, z2, z3, zf⟩ := Z0.out.gr G2.out (by omega)
  obtain ⟨q0, q1, q2, q3, qf⟩ := Z1.out.gr G2.out (by omega)
  simp only [noE] at z0 z1 z2 z3 q0 q1 q2 q3
  obtain ⟨a0, a1, a2, a3⟩ := a
  obtain ⟨b0, b1, b2, b3⟩ := b
  unfold edV
  simp only
  obtain ⟨y0, y1, y2, y3⟩ := set4 w2 w.heap.size (.int .i64 a0) (.int .i64 a1) (.int .i64 a2) (.int .i64 a3) z0 z1 z2 z3
  obtain ⟨W5, hW5⟩ : ∃ W5, (((w2.setCell ⟨w.heap.size, 0, none⟩ (.int .i64 a0)).setCell ⟨w.heap.size, 1, none⟩ (.int .i64 a1)).setCell ⟨w.heap.size, 2, none⟩ (.int .i64 a2)).setCell ⟨w.heap.size, 3, none⟩ (.int .i64 a3) = W5 := ⟨_, rfl⟩
  have far : ∀ (w : World) (g g' o o' : Nat) (u : Value), g ≠ g' → (w.setCell ⟨g, o, none⟩ u).cell? ⟨g', o', none⟩ = w.cell? ⟨g', o', none⟩ := fun w g g' o o' u h => World.cell?_setCell_other _ _ _ _ (fun e => by injection e; omega)
  have far5 : ∀ o', ((((w2.setCell ⟨w.heap.size, 0, none⟩ (.int .i64 a0)).setCell ⟨w.heap.size, 1, none⟩ (.int .i64 a1)).setCell ⟨w.heap.size, 2, none⟩ (.int .i64 a2)).setCell ⟨w.heap.size, 3, none⟩ (.int .i64 a3)).cell? ⟨w.heap.size + 1, o', none⟩ = w2.cell? ⟨w.heap.size + 1, o', none⟩ := fun o' => by
    rw [far _ _ _ _ _ _ (by omega), far _ _ _ _ _ _ (by omega), far _ _ _ _ _ _ (by omega), far _ _ _ _ _ _ (by omega)]
  replace q0 := (far5 0).trans q0
  replace q1 := (far5 1).trans q1
  replace q2 := (far5 2).trans q2
  replace q3 := (far5 3).trans q3
  obtain ⟨x0, x1, x2, x3⟩ := set4 _ (w.heap.size + 1) (.int .i64 b0) (.int .i64 b1) (.int .i64 b2) (.int .i64 b3) q0 q1 q2 q3
  have far6 : ∀ (w0 : World) (o' : Nat), ((((w0.setCell ⟨w.heap.size + 1, 0, none⟩ (.int .i64 b0)).setCell ⟨w.heap.size + 1, 1, none⟩ (.int .i64 b1)).setCell ⟨w.heap.size + 1, 2, none⟩ (.int .i64 b2)).setCell ⟨w.heap.size + 1, 3, none⟩ (.int .i64 b3)).cell? ⟨w.heap.size, o', none⟩ = w0.cell? ⟨w.heap.size, o', none⟩ := fun w0 o' => by
    rw [far _ _ _ _ _ _ (by omega), far _ _ _ _ _ _ (by omega), far _ _ _ _ _ _ (by omega), far _ _ _ _ _ _ (by omega)]
  replace y0 := (far6 _ 0).trans y0
  replace y1 := (far6 _ 1).trans y1
  replace y2 := (far6 _ 2).trans y2
  replace y3 := (far6 _ 3).trans y3
  clear far far5 far6 hW5 W5
  go_wp2
  refine bodyPost_ret (v := .tuple #[.agg #[.int .i64 a0, .int .i64 a1, .int .i64 a2, .int .i64 a3], .agg #[.int .i64 b0, .int .i64 b1, .int .i64 b2, .int .i64 b3]]) (by simp [results, Try.results15, go_sem, y0, y1, y2, y3, x0, x1, x2, x3]) rfl ⟨⟨a0, a1, a2, a3⟩, ⟨b0, b1, b2, b3⟩, rfl, ?_⟩
  exact (((((((N2.out.setCell (by simp) _).setCell (by simp) _).setCell (by simp) _).setCell (by simp) _).setCell (by simp) _).setCell (by simp) _).setCell (by simp) _).setCell (by simp) _
end Go.Proofs.Ythlohbiocfeapaa
