/-
  Rules copied by the laws' helpers; each theorem names its conditions.
  Rules held against each other by the laws' helpers; each theorem names its conditions.
  The law on SheetText; each theorem names its conditions.
  Rules that came in, opened: what their reading says of the memory; each theorem names its conditions.
-/
import Derived.Test.YtnkmdmmlpidcmaaDoorJAM
import Derived.Test.YtnkmdmmlpidcmaaDoorJAQ
import Derived.Test.YtnkmdmmlpidcmaaDoorJAK
import Derived.Test.YtnkmdmmlpidcmaaDoorJAN
namespace Go.Proofs.YtnkmdmmlpidcmaaDoor
open Go.ChangeShapes Go.WideShapes Go.ChangeAt Go.RowKit
set_option linter.unusedVariables false

theorem toDecl_any (w : World) (n : DD) : Calls Tryd.prog 104 #[.agg #[.string n.nm, .string n.vl, .bool n.im]] w fun e w' => e = .returned (.agg #[.string n.nm, .string n.vl, .bool n.im]) ∧ Nw w w' := by
  obtain ⟨nm, vl, im⟩ := n
  simp only
  go_enter Tryd.func104, Tryd.ntmps104
  go_wp2
  refine bodyPost_ret (v := .agg #[.string nm, .string vl, .bool im]) (by simp [results, Tryd.results104, go_sem]) rfl ⟨rfl, ?_⟩
  exact (((Below.refl _ _).alloc (Nat.le_refl _) _).alloc (by simp) _).alloc (by simp; omega) _
set_option maxHeartbeats 2000000 in
theorem toDeclS_any (w : World) (a : Option Addr) (c : Nat) (l : List DD) (hm : l.length ≤ 1048576) (hr : DeclsO w a l) :
    Calls Tryd.prog 75 #[.slice a l.length c] w fun e w' => e = .returned (.slice (some ⟨w.heap.size, 0, none⟩) l.length l.length) ∧ Nw w w' ∧ LayDs w' w.heap.size l l.length := by
  have HR : Hid (DeclsO w a l) := hr
  clear hr
  have hmk := run_mk 22 50 _ 3 40 Tryd.underlying22 Tryd.info50 l.length (by omega) (by omega)
  have hcs : (Value.agg #[.string ⟨#[]⟩, .string ⟨#[]⟩, .bool false]).cells = #[.string ⟨#[]⟩, .string ⟨#[]⟩, .bool false] := rfl
  rw [hcs] at hmk
  go_enter Tryd.func75, Tryd.ntmps75
  go_wp2
  go_loopw [4] (fun i wr => ∃ k : Nat, k ≤ l.length ∧ i = .int .i64 k ∧ Nw w wr ∧ LayDs wr w.heap.size l k) (fun i _ => l.length - (intOf i).toNat)
  case atStart => exact ⟨0, Nat.zero_le _, rfl, (Below.refl _ _).alloc (Nat.le_refl _) _, LayDs.start w l _⟩
  case round =>
    obtain ⟨k, hk, rfl, hw, hlay⟩ := hrel
    clear hmk hcs
    by_cases hlt : k < l.length
    · rcases (HR.out.nw hw) with h | ⟨b, off, rfl, hbk, hc⟩
      · rw [h] at hlt; simp at hlt
      obtain ⟨q0, q1, q2⟩ := hc k hlt
      clear hc
      have HW : Hid (Nw w wr) := hw
      obtain ⟨z0, z1, z2⟩ := hlay.2.2.1 k (Nat.le_refl _) hlt
      have zf := hlay.2.2.2
      have HL : Hid (LayDs wr w.heap.size l k) := hlay
      have hg : w.heap.size < wr.heap.size := hlay.1
      clear hw hlay
      go_wp2_with (go_at_call 104; refine Calls.mono (toDecl_any _ (declAt l k)) ?_; rintro e w' ⟨rfl, k1⟩; have y0 := ((bcell k1).1 _ (k * 3) hg).trans z0; have y1 := ((bcell k1).1 _ (k * 3 + 1) hg).trans z1; have y2 := ((bcell k1).1 _ (k * 3 + 2) hg).trans z2; have yf : ∀ o, w'.frozen? ⟨w.heap.size, o, none⟩ = false := (fun o => ((bcell k1).2 _ o hg).trans (zf o)); have hg2 : w.heap.size < w'.heap.size := (Nat.lt_of_lt_of_le hg (Below.size k1)))
      go_roundw
      case rel =>
        refine ⟨k + 1, by omega, by go_num, ?_, LayDs.step HL.out k1 hlt⟩
        have kb : Below w.heap.size w w' := HW.out.trans k1
        exact ((kb.setCell (Nat.le_refl _) _).setCell (Nat.le_refl _) _).setCell (Nat.le_refl _) _
      case measure => simp [intOf]; omega
    · have e : k = l.length := by omega
      subst e
      have HN : Hid (Nw w wr ∧ LayDs wr w.heap.size l l.length) := ⟨hw, hlay⟩
      clear hw hlay
      go_wp2
      go_ret
      exact ⟨rfl, HN.out⟩
set_option maxHeartbeats 2000000 in
theorem toSS_any (w : World) (a : Option Addr) (c : Nat) (l : List (List PD)) (hm : l.length ≤ 1048576) (hla : lenSS l) (hr : Selss w a l) :
    Calls Tryd.prog 74 #[.slice a l.length c] w fun e w' => e = .returned (.slice (some ⟨w.heap.size, 0, none⟩) l.length l.length) ∧ Nw w w' ∧ LaySS w' w.heap.size l l.length := by
  have HR : Hid (Selss w a l) := hr
  have HLA : Hid (lenSS l) := hla
  clear hr hla
  have hmk := run_mk 66 28 _ 1 24 Tryd.underlying66 info_sel l.length (by omega) (by omega)
  have hcs : (Value.slice none 0 0).cells = #[.slice none 0 0] := rfl
  rw [hcs] at hmk
  go_enter Tryd.func74, Tryd.ntmps74
  go_wp2
  go_loopw [4] (fun i wr => ∃ k : Nat, k ≤ l.length ∧ i = .int .i64 k ∧ Nw w wr ∧ LaySS wr w.heap.size l k) (fun i _ => l.length - (intOf i).toNat)
  case atStart => exact ⟨0, Nat.zero_le _, rfl, (Below.refl _ _).alloc (Nat.le_refl _) _, LaySS.start w l _⟩
  case round =>
    obtain ⟨k, hk, rfl, hw, hlay⟩ := hrel
    clear hmk hcs
    by_cases hlt : k < l.length
    · rcases (HR.out.nw hw) with h | ⟨b, off, rfl, hbk, hc⟩
      · rw [h] at hlt; simp at hlt
      obtain ⟨qa, qc, q0, qcap, q4⟩ := hc k hlt
      have Q4 : Hid (Parts wr qa (selAt l k)) := q4
      have hl1 := (HLA.out k hlt).1
      have HL2 : Hid (lenPs (selAt l k)) := (HLA.out k hlt).2
      clear hc q4
      have HW : Hid (Nw w wr) := hw
      have z0 := hlay.2.2.1 k (Nat.le_refl _) hlt
      have zf := hlay.2.2.2
      have HL : Hid (LaySS wr w.heap.size l k) := hlay
      have hg : w.heap.size < wr.heap.size := hlay.1
      clear hw hlay
      go_wp2_with (go_at_call 103; refine Calls.mono (toPartS_any _ qa qc (selAt l k) hl1 HL2.out Q4.out) ?_; rintro e w' ⟨rfl, k1, hlp⟩; have y0 := ((bcell k1).1 _ k hg).trans z0; have yf : ∀ o, w'.frozen? ⟨w.heap.size, o, none⟩ = false := (fun o => ((bcell k1).2 _ o hg).trans (zf o)); have hg2 : w.heap.size < w'.heap.size := (Nat.lt_of_lt_of_le hg (Below.size k1)); have HLP : Hid (LayPs w' wr.heap.size (selAt l k) (selAt l k).length) := hlp; clear hlp)
      go_roundw
      case rel =>
        refine ⟨k + 1, by omega, by go_num, ?_, LaySS.step HL.out k1 hlt (Nat.le_refl _) HLP.out⟩
        have kb : Below w.heap.size w w' := HW.out.trans k1
        exact kb.setCell (Nat.le_refl _) _
      case measure => simp [intOf]; omega
    · have e : k = l.length := by omega
      subst e
      have HN : Hid (Nw w wr ∧ LaySS wr w.heap.size l l.length) := ⟨hw, hlay⟩
      clear hw hlay
      go_wp2
      go_ret
      exact ⟨rfl, HN.out⟩
theorem last2 (W : World) (t : TypeId) (a b : Value) {g : Nat} (hg : g = W.heap.size) : (W.alloc (.cells #[a, b] t)).cell? ⟨g, 0, none⟩ = some a ∧ (W.alloc (.cells #[a, b] t)).cell? ⟨g, 1, none⟩ = some b ∧ ∀ o, (W.alloc (.cells #[a, b] t)).frozen? ⟨g, o, none⟩ = false := by
  subst hg
  refine ⟨by simp, by simp, fun o => by simp⟩
set_option maxHeartbeats 2000000 in
theorem toRule_any (w : World) (r : RD) (a1 a2 : Option Addr) (c1 c2 : Nat) (hl : lenR r) (hs : Selss w a1 r.sels) (hd : DeclsO w a2 r.decls) :
    Calls Tryd.prog 42 #[.agg #[.slice a1 r.sels.length c1, .slice a2 r.decls.length c2]] w fun e w' => ∃ ga gb, e = .returned (.agg #[.slice (some ⟨ga, 0, none⟩) r.sels.length r.sels.length, .slice (some ⟨gb, 0, none⟩) r.decls.length r.decls.length]) ∧ Nw w w' ∧ w.heap.size ≤ ga ∧ w.heap.size ≤ gb ∧ LaySS w' ga r.sels r.sels.length ∧ LayDs w' gb r.decls r.decls.length := by
  obtain ⟨s1, s2, s3⟩ := hl
  have HS2 : Hid (lenSS r.sels) := s2
  have HS : Hid (Selss w a1 r.sels) := hs
  have HD : Hid (DeclsO w a2 r.decls) := hd
  clear s2 hs hd
  obtain ⟨ss, ds⟩ := r
  simp only at *
  have HA : ∀ o1 o2 o3, Hid (Nw w (((w.alloc o1).alloc o2).alloc o3)) := fun o1 o2 o3 => (((Below.refl _ _).alloc (Nat.le_refl _) _).alloc (by simp) _).alloc (by simp; omega) _
  go_enter Tryd.func42, Tryd.ntmps42
  go_wp2_with fail
  refine Calls.mono (toSS_any _ a1 c1 ss s1 HS2.out (HS.out.nw (HA _ _ _).out)) ?_
  rintro e w1 ⟨rfl, k1, y1⟩
  obtain ⟨hc, hf⟩ := bcell k1
  have K0 : Hid (Below w.heap.size w w1) := Below.trans (HA _ _ _).out (Below.mono k1 (Below.size (HA _ _ _).out))
  have hz : w.heap.size + 1 + 1 + 1 < w1.heap.size := by have := y1.1; simpa using this
  have Y1 : Hid (LaySS w1 (w.heap.size + 1 + 1 + 1) ss ss.length) := by show LaySS _ _ _ _; simpa using y1
  clear k1 y1
  go_wp2_with fail
  have HN1 : Hid (Nw w (w1.setCell ⟨w.heap.size + 1 + 1, 0, none⟩ (.slice (some ⟨w.heap.size + 1 + 1 + 1, 0, none⟩) ss.length ss.length))) := Below.setCell K0.out (by simp <;> omega) _
  have Y2 : Hid (LaySS (w1.setCell ⟨w.heap.size + 1 + 1, 0, none⟩ (.slice (some ⟨w.heap.size + 1 + 1 + 1, 0, none⟩) ss.length ss.length)) (w.heap.size + 1 + 1 + 1) ss ss.length) := Y1.out.from (From.set w1 (Nat.lt_succ_self _) _ _) (Nat.le_refl _)
  have q1 : w1.cell? ⟨w.heap.size + 1, 0, none⟩ = some (.slice none 0 0) := by rw [hc _ _ (by simp)]; simp [World.cell?_alloc_past]
  have q2 : w1.cell? ⟨w.heap.size + 1, 1, none⟩ = some (.slice none 0 0) := by rw [hc _ _ (by simp)]; simp [World.cell?_alloc_past]
  have q3 : w1.cell? ⟨w.heap.size + 1 + 1, 0, none⟩ = some (.slice none 0 0) := by rw [hc _ _ (by simp)]; exact (last2 _ _ _ _ (by simp)).1
  have q4 : w1.cell? ⟨w.heap.size + 1 + 1, 1, none⟩ = some (.slice none 0 0) := by rw [hc _ _ (by simp)]; exact (last2 _ _ _ _ (by simp)).2.1
  have f1 : ∀ o, w1.frozen? ⟨w.heap.size + 1, o, none⟩ = false := fun o => by
    rw [hf _ _ (by simp), (bcell ((Below.refl _ _).alloc (Nat.le_refl _) _)).2 _ _ (by simp)]
    exact (last2 _ _ _ _ (by simp)).2.2 o
  have f2 : ∀ o, w1.frozen? ⟨w.heap.size + 1 + 1, o, none⟩ = false := fun o => by rw [hf _ _ (by simp)]; exact (last2 _ _ _ _ (by simp)).2.2 o
  have p1 : (w1.setCell ⟨w.heap.size + 1 + 1, 0, none⟩ (.slice (some ⟨w.heap.size + 1 + 1 + 1, 0, none⟩) ss.length ss.length)).cell? ⟨w.heap.size + 1 + 1, 0, none⟩ = some (.slice (some ⟨w.heap.size + 1 + 1 + 1, 0, none⟩) ss.length ss.length) := World.cell?_setCell_same w1 ⟨w.heap.size + 1 + 1, 0, none⟩ _ q3
  have p2 : (w1.setCell ⟨w.heap.size + 1 + 1, 0, none⟩ (.slice (some ⟨w.heap.size + 1 + 1 + 1, 0, none⟩) ss.length ss.length)).cell? ⟨w.heap.size + 1 + 1, 1, none⟩ = some (.slice none 0 0) := (World.cell?_setCell_other _ _ _ _ (fun h => by injection h; omega)).trans q4
  have p3 : ∀ o, (w1.setCell ⟨w.heap.size + 1 + 1, 0, none⟩ (.slice (some ⟨w.heap.size + 1 + 1 + 1, 0, none⟩) ss.length ss.length)).cell? ⟨w.heap.size + 1, o, none⟩ = w1.cell? ⟨w.heap.size + 1, o, none⟩ := fun o => World.cell?_setCell_other _ _ _ _ (fun h => by injection h; omega)
  have p4 := (p3 0).trans q1
  have p5 := (p3 1).trans q2
  have f3 : ∀ b o, (w1.setCell ⟨w.heap.size + 1 + 1, 0, none⟩ (.slice (some ⟨w.heap.size + 1 + 1 + 1, 0, none⟩) ss.length ss.length)).frozen? ⟨b, o, none⟩ = w1.frozen? ⟨b, o, none⟩ := fun b o => World.frozen?_setCell ..
  have g1 := fun o => (f3 (w.heap.size + 1) o).trans (f1 o)
  have g2 := fun o => (f3 (w.heap.size + 1 + 1) o).trans (f2 o)
  have hz2 : w.heap.size + 1 + 1 + 1 < (w1.setCell ⟨w.heap.size + 1 + 1, 0, none⟩ (.slice (some ⟨w.heap.size + 1 + 1 + 1, 0, none⟩) ss.length ss.length)).heap.size := by simpa [World.setCell] using hz
  clear hc hf p3 q1 q2 q3 q4 f1 f2 f3 hz
  generalize w1.setCell ⟨w.heap.size + 1 + 1, 0, none⟩ (.slice (some ⟨w.heap.size + 1 + 1 + 1, 0, none⟩) ss.length ss.length) = w2 at *
  refine Calls.mono (toDeclS_any _ a2 c2 ds s3 (HD.out.nw HN1.out)) ?_
  rintro e w3 ⟨rfl, k3, y3⟩
  obtain ⟨hc, hf⟩ := bcell k3
  have c1 := (hc (w.heap.size + 1 + 1) 0 (by omega)).trans p1
  have c2 := (hc (w.heap.size + 1 + 1) 1 (by omega)).trans p2
  have c4 := (hc (w.heap.size + 1) 0 (by omega)).trans p4
  have c5 := (hc (w.heap.size + 1) 1 (by omega)).trans p5
  have d1 := fun o => (hf (w.heap.size + 1) o (by omega)).trans (g1 o)
  have d2 := fun o => (hf (w.heap.size + 1 + 1) o (by omega)).trans (g2 o)
  have K3 : Hid (Nw w w3) := Nw.trans HN1.out k3
  have Y3 : Hid (LaySS w3 (w.heap.size + 1 + 1 + 1) ss ss.length) := Y2.out.from (From.nw (B := 0) k3) (Nat.zero_le _)
  have Y4 : Hid (LayDs w3 w2.heap.size ds ds.length) := y3
  have hz3 : w2.heap.size < w3.heap.size := y3.1
  have HZ : Hid (w.heap.size + 1 + 1 + 1 < w2.heap.size) := hz2
  have hz4 : w.heap.size + 1 + 1 + 1 < w3.heap.size := by omega
  generalize w2.heap.size = gb at *
  clear hc hf p1 p2 p4 p5 g1 g2 k3 y3 hz2
  have E0 : Hid ((((w3.setCell ⟨w.heap.size + 1 + 1, 1, none⟩ (.slice (some ⟨gb, 0, none⟩) ds.length ds.length)).setCell ⟨w.heap.size + 1, 0, none⟩ (.slice (some ⟨w.heap.size + 1 + 1 + 1, 0, none⟩) ss.length ss.length)).setCell ⟨w.heap.size + 1, 1, none⟩ (.slice (some ⟨gb, 0, none⟩) ds.length ds.length)).cell? ⟨w.heap.size + 1, 0, none⟩ = some (.slice (some ⟨w.heap.size + 1 + 1 + 1, 0, none⟩) ss.length ss.length)) := by
    show _ = _
    rw [World.cell?_setCell_other _ _ _ _ (fun h => by injection h; omega)]
    exact World.cell?_setCell_same _ ⟨w.heap.size + 1, 0, none⟩ _ ((World.cell?_setCell_other _ _ _ _ (fun h => by injection h; omega)).trans c4)
  have E1 : Hid ((((w3.setCell ⟨w.heap.size + 1 + 1, 1, none⟩ (.slice (some ⟨gb, 0, none⟩) ds.length ds.length)).setCell ⟨w.heap.size + 1, 0, none⟩ (.slice (some ⟨w.heap.size + 1 + 1 + 1, 0, none⟩) ss.length ss.length)).setCell ⟨w.heap.size + 1, 1, none⟩ (.slice (some ⟨gb, 0, none⟩) ds.length ds.length)).cell? ⟨w.heap.size + 1, 1, none⟩ = some (.slice (some ⟨gb, 0, none⟩) ds.length ds.length)) := by
    show _ = _
    exact World.cell?_setCell_same _ ⟨w.heap.size + 1, 1, none⟩ _ ((World.cell?_setCell_other _ _ _ _ (fun h => by injection h; omega)).trans ((World.cell?_setCell_other _ _ _ _ (fun h => by injection h; omega)).trans c5))
  go_wp2
  have e0 := E0.out
  have e1 := E1.out
  have kf : From (w.heap.size + 1 + 1 + 1) w3 (((w3.setCell ⟨w.heap.size + 1 + 1, 1, none⟩ (.slice (some ⟨gb, 0, none⟩) ds.length ds.length)).setCell ⟨w.heap.size + 1, 0, none⟩ (.slice (some ⟨w.heap.size + 1 + 1 + 1, 0, none⟩) ss.length ss.length)).setCell ⟨w.heap.size + 1, 1, none⟩ (.slice (some ⟨gb, 0, none⟩) ds.length ds.length)) := ((From.set w3 (by omega) _ _).trans (From.set _ (by omega) _ _)).trans (From.set _ (by omega) _ _)
  have hzz := HZ.out
  exact bodyPost_ret (v := .agg #[.slice (some ⟨w.heap.size + 1 + 1 + 1, 0, none⟩) ss.length ss.length, .slice (some ⟨gb, 0, none⟩) ds.length ds.length]) (by simp [results, Tryd.results42, go_sem, e0, e1]) rfl ⟨w.heap.size + 1 + 1 + 1, gb, rfl, ((Below.setCell K3.out (by simp <;> omega) _).setCell (by simp <;> omega) _).setCell (by simp <;> omega) _, by omega, by omega, Y3.out.from kf (Nat.le_refl _), Y4.out.from kf (by omega)⟩
set_option maxHeartbeats 2000000 in
theorem toRuleS_any (w : World) (a : Option Addr) (c : Nat) (l : List RD) (hm : l.length ≤ 1048576) (hla : lenRs l) (hr : Rules w a l) :
    Calls Tryd.prog 19 #[.slice a l.length c] w fun e w' => e = .returned (.slice (some ⟨w.heap.size, 0, none⟩) l.length l.length) ∧ Nw w w' ∧ LayRs w' w.heap.size l l.length := by
  have HR : Hid (Rules w a l) := hr
  have HLA : Hid (lenRs l) := hla
  clear hr hla
  have hmk := run_mk 37 68 _ 2 48 Tryd.underlying37 info_rule l.length (by omega) (by omega)
  have hcs : (Value.agg #[.slice none 0 0, .slice none 0 0]).cells = #[.slice none 0 0, .slice none 0 0] := rfl
  rw [hcs] at hmk
  go_enter Tryd.func19, Tryd.ntmps19
  go_wp2
  go_loopw [4] (fun i wr => ∃ k : Nat, k ≤ l.length ∧ i = .int .i64 k ∧ Nw w wr ∧ LayRs wr w.heap.size l k) (fun i _ => l.length - (intOf i).toNat)
  case atStart => exact ⟨0, Nat.zero_le _, rfl, (Below.refl _ _).alloc (Nat.le_refl _) _, LayRs.start w l _⟩
  case round =>
    obtain ⟨k, hk, rfl, hw, hlay⟩ := hrel
    clear hmk hcs
    by_cases hlt : k < l.length
    · rcases (HR.out.nw hw) with h | ⟨b, off, rfl, hbk, hc⟩
      · rw [h] at hlt; simp at hlt
      obtain ⟨⟨qa, qc, q0, qcap, q4⟩, ⟨ra, rc, r0, rcap, r4⟩⟩ := hc k hlt
      have Q4 : Hid (Selss wr qa (ruleAt l k).sels) := q4
      have R4 : Hid (DeclsO wr ra (ruleAt l k).decls) := r4
      have HL2 : Hid (lenR (ruleAt l k)) := HLA.out k hlt
      clear hc q4 r4
      have HW : Hid (Nw w wr) := hw
      obtain ⟨z0, z1⟩ := hlay.2.2.1 k (Nat.le_refl _) hlt
      have zf := hlay.2.2.2
      have HL : Hid (LayRs wr w.heap.size l k) := hlay
      have hg : w.heap.size < wr.heap.size := hlay.1
      clear hw hlay
      go_wp2_with (go_at_call 42; refine Calls.mono (toRule_any _ (ruleAt l k) qa ra qc rc HL2.out Q4.out R4.out) ?_; rintro e w' ⟨ga, gb, rfl, k1, ha, hb, hs1, hd1⟩; have y0 := ((bcell k1).1 _ (k * 2) hg).trans z0; have y1 := ((bcell k1).1 _ (k * 2 + 1) hg).trans z1; have yf : ∀ o, w'.frozen? ⟨w.heap.size, o, none⟩ = false := (fun o => ((bcell k1).2 _ o hg).trans (zf o)); have hg2 : w.heap.size < w'.heap.size := (Nat.lt_of_lt_of_le hg (Below.size k1)); have HS1 : Hid (LaySS w' ga (ruleAt l k).sels (ruleAt l k).sels.length) := hs1; have HD1 : Hid (LayDs w' gb (ruleAt l k).decls (ruleAt l k).decls.length) := hd1; clear hs1 hd1)
      go_roundw
      case rel =>
        refine ⟨k + 1, by omega, by go_num, ?_, LayRs.step HL.out k1 hlt ha hb HS1.out HD1.out⟩
        have kb : Below w.heap.size w w' := HW.out.trans k1
        exact (kb.setCell (Nat.le_refl _) _).setCell (Nat.le_refl _) _
      case measure => simp [intOf]; omega
    · have e : k = l.length := by omega
      subst e
      have HN : Hid (Nw w wr ∧ LayRs wr w.heap.size l l.length) := ⟨hw, hlay⟩
      clear hw hlay
      go_wp2
      go_ret
      exact ⟨rfl, HN.out⟩
end Go.Proofs.YtnkmdmmlpidcmaaDoor
namespace Go.Proofs.YtnkmdmmlpidcmaaDoor
open Go.ChangeShapes Go.WideShapes Go.ChangeAt Go.RowKit
set_option linter.unusedVariables false

set_option maxHeartbeats 4000000 in
theorem eqDeclsO_any (w : World) (a1 a2 : Option Addr) (c1 c2 : Nat) (l : List DD) (hl : l.length ≤ 1048576) (h1 : DeclsO w a1 l) (h2 : DeclsO w a2 l) :
    Calls Tryd.prog 9 #[.slice a1 l.length c1, .slice a2 l.length c2] w fun e w' => e = .returned (.bool true) ∧ Nw w w' := by
  have H1 : Hid (DeclsO w a1 l) := h1
  have H2 : Hid (DeclsO w a2 l) := h2
  clear h1 h2
  go_enter Tryd.func9, Tryd.ntmps9
  go_wp2
  go_loopw [5] (fun i wr => ∃ k : Nat, k ≤ l.length ∧ i = .int .i64 k ∧ Nw w wr) (fun i _ => l.length - (intOf i).toNat)
  case atStart => exact ⟨0, Nat.zero_le _, rfl, Below.refl _ _⟩
  case round =>
    obtain ⟨k, hk, rfl, hw⟩ := hrel
    by_cases hlt : k < l.length
    · rcases (H1.out.nw hw) with h | ⟨b1, o1, rfl, hb1, hc1⟩
      · rw [h] at hlt; simp at hlt
      rcases (H2.out.nw hw) with h | ⟨b2, o2, rfl, hb2, hc2⟩
      · rw [h] at hlt; simp at hlt
      obtain ⟨q0, q1, q2⟩ := hc1 k hlt
      obtain ⟨r0, r1, r2⟩ := hc2 k hlt
      clear hc1 hc2 H1 H2
      have HW : Hid (Nw w wr) := hw
      clear hw
      generalize declAt l k = d at *
      go_wp2
      go_region_with (go_at_call 29; refine Calls.mono (eqDecl_any _ d) ?_; rintro e w' ⟨rfl, k1⟩)
      all_goals
        go_wp2
        go_roundw
        case rel => exact ⟨k + 1, by omega, by go_num, HW.out.trans k1.drw⟩
        case measure => simp [intOf]; omega
    · have HW : Hid (Nw w wr) := hw
      clear hw
      go_wp2
      go_ret
      exact ⟨rfl, HW.out⟩
set_option maxHeartbeats 4000000 in
theorem eqSelss_any (w : World) (a1 a2 : Option Addr) (c1 c2 : Nat) (l : List (List PD)) (hl : l.length ≤ 1048576) (hla : lenSS l) (h1 : Selss w a1 l) (h2 : Selss w a2 l) :
    Calls Tryd.prog 80 #[.slice a1 l.length c1, .slice a2 l.length c2] w fun e w' => e = .returned (.bool true) ∧ Nw w w' := by
  have H1 : Hid (Selss w a1 l) := h1
  have H2 : Hid (Selss w a2 l) := h2
  have HLA : Hid (lenSS l) := hla
  clear h1 h2 hla
  go_enter Tryd.func80, Tryd.ntmps80
  go_wp2
  go_loopw [5] (fun i wr => ∃ k : Nat, k ≤ l.length ∧ i = .int .i64 k ∧ Nw w wr) (fun i _ => l.length - (intOf i).toNat)
  case atStart => exact ⟨0, Nat.zero_le _, rfl, Below.refl _ _⟩
  case round =>
    obtain ⟨k, hk, rfl, hw⟩ := hrel
    by_cases hlt : k < l.length
    · rcases (H1.out.nw hw) with h | ⟨b1, o1, rfl, hb1, hc1⟩
      · rw [h] at hlt; simp at hlt
      rcases (H2.out.nw hw) with h | ⟨b2, o2, rfl, hb2, hc2⟩
      · rw [h] at hlt; simp at hlt
      obtain ⟨p1, n1, q1, _, r1⟩ := hc1 k hlt
      obtain ⟨p2, n2, q2, _, r2⟩ := hc2 k hlt
      obtain ⟨hs1, hs2⟩ := HLA.out k hlt
      have Q4 : Hid (Parts wr.drew p1 (selAt l k)) := r1.nw ((Below.refl _ _).drew)
      have R4 : Hid (Parts wr.drew p2 (selAt l k)) := r2.nw ((Below.refl _ _).drew)
      have HL2 : Hid (lenPs (selAt l k)) := hs2
      have HW : Hid (Nw w wr) := hw
      clear r1 r2 hs2 hw H1 H2 hc1 hc2
      go_wp2
      go_region_with (go_at_call 14; refine Calls.mono (eqPartS_any _ p1 p2 n1 n2 (selAt l k) hs1 HL2.out Q4.out R4.out) ?_; rintro e w' ⟨rfl, k1⟩)
      all_goals
        go_wp2
        go_roundw
        case rel => exact ⟨k + 1, by omega, by go_num, HW.out.trans k1.drw⟩
        case measure => simp [intOf]; omega
    · have HW : Hid (Nw w wr) := hw
      clear hw
      go_wp2
      go_ret
      exact ⟨rfl, HW.out⟩
theorem eqRuleO_any (w : World) (r : RD) (a1 b1 a2 b2 : Option Addr) (c1 d1 c2 d2 : Nat) (hl : lenR r) (h1 : Selss w a1 r.sels) (h2 : Selss w a2 r.sels) (h3 : DeclsO w b1 r.decls) (h4 : DeclsO w b2 r.decls) :
    Calls Tryd.prog 45 #[.agg #[.slice a1 r.sels.length c1, .slice b1 r.decls.length d1], .agg #[.slice a2 r.sels.length c2, .slice b2 r.decls.length d2]] w fun e w' => e = .returned (.bool true) ∧ Nw w w' := by
  obtain ⟨s1, s2, s3⟩ := hl
  have HS2 : Hid (lenSS r.sels) := s2
  clear s2
  have HB : ∀ o1 o2, Hid (Nw w ((w.alloc o1).alloc o2)) := fun o1 o2 => ((Below.refl _ _).alloc (Nat.le_refl _) _).alloc (by simp) _
  have H1 : Hid (Selss w a1 r.sels) := h1
  have H2 : Hid (Selss w a2 r.sels) := h2
  have H3 : Hid (DeclsO w b1 r.decls) := h3
  have H4 : Hid (DeclsO w b2 r.decls) := h4
  clear h1 h2 h3 h4
  go_enter Tryd.func45, Tryd.ntmps45
  go_wp2_with fail
  refine Calls.mono (eqSelss_any _ a1 a2 _ _ r.sels s1 HS2.out (H1.out.nw (HB _ _).out) (H2.out.nw (HB _ _).out)) ?_
  rintro e w1 ⟨rfl, k1⟩
  obtain ⟨hc, hf⟩ := bcell k1
  have HN1 : Hid (Nw w w1) := Nw.trans (HB _ _).out k1
  clear k1
  go_wp2_with fail
  refine Calls.mono (eqDeclsO_any _ b1 b2 _ _ r.decls s3 (H3.out.nw HN1.out) (H4.out.nw HN1.out)) ?_
  rintro e w2 ⟨rfl, k2⟩
  go_wp2
  go_ret
  exact ⟨rfl, Nw.trans HN1.out k2⟩
set_option maxHeartbeats 4000000 in
theorem eqRulesO_any (w : World) (a1 a2 : Option Addr) (c1 c2 : Nat) (l : List RD) (hl : l.length ≤ 1048576) (hla : lenRs l) (h1 : Rules w a1 l) (h2 : Rules w a2 l) :
    Calls Tryd.prog 21 #[.slice a1 l.length c1, .slice a2 l.length c2] w fun e w' => e = .returned (.bool true) ∧ Nw w w' := by
  have H1 : Hid (Rules w a1 l) := h1
  have H2 : Hid (Rules w a2 l) := h2
  have HLA : Hid (lenRs l) := hla
  clear h1 h2 hla
  go_enter Tryd.func21, Tryd.ntmps21
  go_wp2
  go_loopw [5] (fun i wr => ∃ k : Nat, k ≤ l.length ∧ i = .int .i64 k ∧ Nw w wr) (fun i _ => l.length - (intOf i).toNat)
  case atStart => exact ⟨0, Nat.zero_le _, rfl, Below.refl _ _⟩
  case round =>
    obtain ⟨k, hk, rfl, hw⟩ := hrel
    by_cases hlt : k < l.length
    · rcases (H1.out.nw hw) with h | ⟨g1, o1, rfl, hb1, hc1⟩
      · rw [h] at hlt; simp at hlt
      rcases (H2.out.nw hw) with h | ⟨g2, o2, rfl, hb2, hc2⟩
      · rw [h] at hlt; simp at hlt
      obtain ⟨⟨p1, n1, q1, _, s1⟩, ⟨u1, m1, t1, _, v1⟩⟩ := hc1 k hlt
      obtain ⟨⟨p2, n2, q2, _, s2⟩, ⟨u2, m2, t2, _, v2⟩⟩ := hc2 k hlt
      have HL2 : Hid (lenR (ruleAt l k)) := HLA.out k hlt
      have D0 : Nw wr wr.drew := (Below.refl _ _).drew
      have S1 : Hid _ := s1.nw D0
      have S2 : Hid _ := s2.nw D0
      have T1 : Hid _ := v1.nw D0
      have T2 : Hid _ := v2.nw D0
      have HW : Hid (Nw w wr) := hw
      clear s1 s2 v1 v2 hw H1 H2 D0 hc1 hc2
      go_wp2
      go_region_with (go_at_call 45; refine Calls.mono (eqRuleO_any _ (ruleAt l k) p1 u1 p2 u2 n1 m1 n2 m2 HL2.out S1.out S2.out T1.out T2.out) ?_; rintro e w' ⟨rfl, k1⟩)
      all_goals
        go_wp2
        go_roundw
        case rel => exact ⟨k + 1, by omega, by go_num, HW.out.trans k1.drw⟩
        case measure => simp [intOf]; omega
    · have HW : Hid (Nw w wr) := hw
      clear hw
      go_wp2
      go_ret
      exact ⟨rfl, HW.out⟩
end Go.Proofs.YtnkmdmmlpidcmaaDoor
namespace Go.Proofs.YtnkmdmmlpidcmaaDoor
open Go.ChangeShapes Go.WideShapes Go.ChangeAt Go.RowKit
set_option linter.unusedVariables false

theorem bulkSS_at (l : List (List PD)) (k : Nat) (hk : k < l.length) : bulkX (selAt l k) ≤ bulkSS l := by
  have h1 := bulkSS_step l k hk
  have h2 := bulkSS_le l (k + 1)
  omega
theorem smR_of {r : RD} (h : bulkR r ≤ 1048576) : smR r ∧ lenR r := by
  unfold bulkR at h
  have key : ∀ i, i < r.sels.length → ((selAt r.sels i).length ≤ 1048576 ∧ smallPs (selAt r.sels i) ∧ lenPs (selAt r.sels i)) := by
    intro i hi
    have h1 := bulkSS_at r.sels i hi
    unfold bulkX at h1
    obtain ⟨a, b⟩ := smallPs_of (l := selAt r.sels i) (by omega)
    exact ⟨by omega, a, b⟩
  refine ⟨⟨by omega, fun i hi => ⟨(key i hi).1, (key i hi).2.1⟩, by omega, fun i hi => ?_⟩, ⟨by omega, fun i hi => ⟨(key i hi).1, (key i hi).2.2⟩, by omega⟩⟩
  have h1 := bulkDs_at r.decls i hi
  unfold bulkD at h1
  omega
theorem smRs_of {l : List RD} (h : ((l.length + bulkRs l : Nat) : Int) ≤ 1048576) : smRs l ∧ lenRs l := by
  have key : ∀ i, i < l.length → bulkR (ruleAt l i) ≤ 1048576 := fun i hi => by
    have := bulkRs_at l i hi
    omega
  exact ⟨⟨by omega, fun i hi => (smR_of (key i hi)).1, by omega⟩, fun i hi => (smR_of (key i hi)).2⟩
def ansT (l : List RD) : ByteArray := if sheetOk l then sheetT l l.length else ⟨#[]⟩
theorem sheetAns_eq (l : List RD) : sheetAns l = .tuple #[.string (ansT l), .bool (sheetOk l)] := by
  unfold sheetAns ansT
  cases sheetOk l <;> rfl
set_option maxHeartbeats 4000000 in
theorem walk_sheetT (w : World) (a : Option Addr) (l : List RD) (c : Nat) (hr : Rules w a l) (ho : okRs l) (hl : l.length ≤ maxLen) :
    Calls Tryd.prog 5 #[.slice a l.length c] w fun e w' => e = .returned (.bool true) ∧ Below w.heap.size w w' := by
  have HR : Hid (Rules w a l) := hr
  have HO : Hid (okRs l) := ho
  have HL : Hid (l.length ≤ maxLen) := hl
  clear hr ho hl
  by_cases hb : ((l.length + bulkRs l : Nat) : Int) ≤ 1048576
  · have hs : szbulkRs l 1048576 = 1048576 - ((l.length + bulkRs l : Nat) : Int) := by unfold szbulkRs; rw [if_pos hb]
    have hneg : decide ((1048576 : Int) - ((l.length + bulkRs l : Nat) : Int) < 0) = false := decide_eq_false (by omega)
    have hll : l.length ≤ 1048576 := by omega
    obtain ⟨hsm, hlo⟩ := smRs_of hb
    have HS : Hid (smRs l) := hsm
    have HLO : Hid (lenRs l) := hlo
    have HA := sheetAns_eq l
    generalize ansT l = S at *
    generalize sheetOk l = q at *
    generalize ((l.length + bulkRs l : Nat) : Int) = B at *
    clear hsm hlo hb
    go_enter Tryd.func5, Tryd.ntmps5
    go_wp2_with fail
    refine Calls.mono (szRuleS_any _ a c l _ (by omega) (by omega) HL.out HR.out HO.out) ?_
    rw [hs]
    rintro e w1 ⟨rfl, k1⟩
    have S1 : Hid (Nw w w1) := k1
    clear k1
    go_wp2_with fail
    refine Calls.mono (toRuleS_any _ a c l hll HLO.out (HR.out.nw S1.out)) ?_
    rintro e w2 ⟨rfl, k1, t1⟩
    have S2 : Hid (Nw w w2) := S1.out.trans k1
    have N2 : Hid (Rules w2 (some ⟨w1.heap.size, 0, none⟩) l) := t1.rules
    clear k1 t1
    go_wp2_with fail
    refine Calls.mono (ssheetT sgoodDecl _ _ _ l HS.out N2.out) ?_
    rw [HA]
    rintro e w3 ⟨rfl, k1⟩
    have S3 : Hid (Nw w w3) := S2.out.trans k1
    clear k1 N2
    go_wp2_with fail
    refine Calls.mono (toRuleS_any _ a c l hll HLO.out (HR.out.nw S3.out)) ?_
    rintro e w4 ⟨rfl, k1, t1⟩
    have S4 : Hid (Nw w w4) := S3.out.trans k1
    have N4 : Hid (Rules w4 (some ⟨w3.heap.size, 0, none⟩) l) := t1.rules
    clear k1 t1
    go_wp2_with fail
    refine Calls.mono (isheetT igoodDecl _ _ _ l HS.out N4.out) ?_
    rw [HA]
    rintro e w5 ⟨rfl, k1⟩
    have S5 : Hid (Nw w w5) := S4.out.trans k1
    have N5 : Hid (Rules w5 (some ⟨w3.heap.size, 0, none⟩) l) := N4.out.nw k1
    clear k1 N4
    go_wp2_with fail
    refine Calls.mono (toRuleS_any _ a c l hll HLO.out (HR.out.nw S5.out)) ?_
    rintro e w6 ⟨rfl, k1, t1⟩
    have S6 : Hid (Nw w w6) := S5.out.trans k1
    have N6 : Hid (Rules w6 (some ⟨w3.heap.size, 0, none⟩) l) := N5.out.nw k1
    have M6 : Hid (Rules w6 (some ⟨w5.heap.size, 0, none⟩) l) := t1.rules
    clear k1 t1 N5
    go_wp2_with fail
    refine Calls.mono (eqRulesO_any _ _ _ _ _ l hll HLO.out N6.out M6.out) ?_
    rintro e w7 ⟨rfl, k1⟩
    go_wp2
    go_ret
    exact ⟨rfl, S6.out.trans k1⟩
  · have hs : szbulkRs l 1048576 = -1 := by unfold szbulkRs; rw [if_neg hb]
    clear hb
    go_enter Tryd.func5, Tryd.ntmps5
    go_wp2_with fail
    refine Calls.mono (szRuleS_any _ a c l _ (by omega) (by omega) HL.out HR.out HO.out) ?_
    rw [hs]
    rintro e w1 ⟨rfl, k1⟩
    go_wp2
    go_ret
    exact ⟨rfl, k1⟩
end Go.Proofs.YtnkmdmmlpidcmaaDoor
namespace Go.Proofs.YtnkmdmmlpidcmaaDoor
open Go.ChangeShapes Go.WideShapes Go.ChangeAt Go.RowKit Go.Deep
set_option linter.unusedVariables false

section
variable {H : Type} {enc : TypeId × Value → H} {W : World} {base : Nat} {held : Bool}
set_option maxRecDepth 100000 in
theorem decls_of {fuel : Nat} {v : Value} {x : DataW H × List MemPlace} (hf : DataW.trod enc Tryd.prog W base (fun _ => true) held fuel 63 [v] = some x) :
    ∃ a l c, v = .slice a l.length c ∧ DeclsO W a l ∧ okDs l ∧ l.length ≤ maxLen ∧ l.length ≤ c := by
  rcases open_slice Tryd.underlying63 hf with ⟨hcs, _⟩ | ⟨a, len, cap, m, n, D, Pl, hcs, _, hl, hm, hmm, _, hx⟩
  · simp at hcs
    exact ⟨none, [], 0, hcs, Or.inl rfl, fun i hi => absurd hi (by simp), by simp, by simp⟩
  · simp at hcs hmm
    subst hmm
    have ce : Tryd.prog.cellsOf 125 = 3 := by kernel_rfl
    rw [ce] at hx
    have key : ∀ i, i < m → ∃ n : DD, okD n ∧ W.cell? (a.add (i * 3)) = some (.string n.nm) ∧ W.cell? (a.add (i * 3 + 1)) = some (.string n.vl) ∧ W.cell? (a.add (i * 3 + 2)) = some (.bool n.im) := by
      intro i hi
      obtain ⟨cs', h1, h2⟩ := hx i hi
      obtain ⟨_, hlen, hcell⟩ := World.cells?_some h1
      obtain ⟨xs, k, hk, hxy, _, hxl, hf⟩ := DataW.trod_struct Tryd.underlying125 h2
      match xs, hxl, cs', hlen with
      | [y0, y1, y2], _, [v0, v1, v2], _ =>
        have g0 := hf 0 _ rfl
        have g1 := hf 1 _ rfl
        have g2 := hf 2 _ rfl
        have e9 : Tryd.prog.cellsOf 9 = 1 := by kernel_rfl
        have es : Tryd.prog.cellsOf 4 = 1 := by kernel_rfl
        simp [e9, es] at g0 g1 g2
        obtain ⟨s, e0, _, hs⟩ := DataW.trod_string Tryd.underlying9 g0
        obtain ⟨t, e1, _, ht⟩ := DataW.trod_string Tryd.underlying9 g1
        obtain ⟨u, e2, _⟩ := DataW.trod_bool Tryd.underlying4 g2
        simp at e0 e1 e2
        subst e0 e1 e2
        have c0 := hcell 0 (by omega)
        have c1 := hcell 1 (by omega)
        have c2 := hcell 2 (by omega)
        rw [add_add] at c0 c1 c2
        exact ⟨⟨s, t, u⟩, ⟨hs, ht⟩, by simpa using c0, by simpa using c1, by simpa using c2⟩
    haveI : Inhabited DD := ⟨noDD⟩
    obtain ⟨N, hN⟩ := choose_lt key
    have en : ∀ i, i < len → declAt ((List.range len).map N) i = N i := fun i hi => by simp [declAt, hi]
    refine ⟨some a, (List.range len).map N, m, by simp [hcs], ?_, fun i hi => ?_, by simp; omega, by simp; omega⟩
    · by_cases h0 : len = 0
      · subst h0; exact Or.inl rfl
      · have hc := (hN 0 (by omega)).2.1
        have ea := addr_spot (show W.cell? (a.add 0) = some _ by simpa using hc)
        refine Or.inr ⟨a.block, a.off, by rw [← ea], ?_, fun i hi => ?_⟩
        · rw [ea, add_at] at hc
          exact World.block_lt_of_cell? W ⟨a.block, a.off + 0 * 3, none⟩ hc
        · have hi' : i < len := by simpa using hi
          obtain ⟨_, g0, g1, g2⟩ := hN i (by omega)
          rw [ea, add_at] at g0 g1 g2
          rw [en i hi']
          exact ⟨g0, by rw [Nat.add_assoc]; exact g1, by rw [Nat.add_assoc]; exact g2⟩
    · have hi' : i < len := by simpa using hi
      rw [en i hi']
      exact (hN i (by omega)).1
set_option maxRecDepth 100000 in
theorem selss_of {fuel : Nat} {v : Value} {x : DataW H × List MemPlace} (hf : DataW.trod enc Tryd.prog W base (fun _ => true) held fuel 62 [v] = some x) :
    ∃ a l c, v = .slice a l.length c ∧ Selss W a l ∧ okSS l ∧ l.length ≤ maxLen ∧ l.length ≤ c := by
  rcases open_slice Tryd.underlying62 hf with ⟨hcs, _⟩ | ⟨a, len, cap, m, n, D, Pl, hcs, _, hl, hm, hmm, _, hx⟩
  · simp at hcs
    exact ⟨none, [], 0, hcs, Or.inl rfl, fun i hi => absurd hi (by simp), by simp, by simp⟩
  · simp at hcs hmm
    subst hmm
    have ce : Tryd.prog.cellsOf 123 = 1 := by kernel_rfl
    rw [ce] at hx
    have key : ∀ i, i < m → ∃ n : List PD, okX n ∧ ∃ aa c, W.cell? (a.add i) = some (.slice aa n.length c) ∧ n.length ≤ c ∧ Parts W aa n := by
      intro i hi
      obtain ⟨cs', h1, h2⟩ := hx i hi
      obtain ⟨_, hlen, hcell⟩ := World.cells?_some h1
      match cs', hlen with
      | [v0], _ =>
        obtain ⟨aa, l, c, rfl, hp, hok, hml, hcap⟩ := parts_of h2
        have c0 := hcell 0 (by omega)
        rw [add_add] at c0
        exact ⟨l, ⟨hml, hok⟩, aa, c, by simpa using c0, hcap, hp⟩
    haveI : Inhabited (List PD) := ⟨[]⟩
    obtain ⟨N, hN⟩ := choose_lt key
    have en : ∀ i, i < len → selAt ((List.range len).map N) i = N i := fun i hi => by simp [selAt, hi]
    refine ⟨some a, (List.range len).map N, m, by simp [hcs], ?_, fun i hi => ?_, by simp; omega, by simp; omega⟩
    · by_cases h0 : len = 0
      · subst h0; exact Or.inl rfl
      · obtain ⟨aa, c, hc, _⟩ := (hN 0 (by omega)).2
        have ea := addr_spot (show W.cell? (a.add 0) = some _ by simpa using hc)
        refine Or.inr ⟨a.block, a.off, by rw [← ea], ?_, fun i hi => ?_⟩
        · rw [ea, add_at] at hc
          exact World.block_lt_of_cell? W ⟨a.block, a.off + 0, none⟩ hc
        · have hi' : i < len := by simpa using hi
          obtain ⟨_, ab, c2, g0, g1, g2⟩ := hN i (by omega)
          rw [ea, add_at] at g0
          rw [en i hi']
          exact ⟨ab, c2, g0, g1, g2⟩
    · have hi' : i < len := by simpa using hi
      rw [en i hi']
      exact (hN i (by omega)).1
set_option maxRecDepth 100000 in
theorem rules_of {fuel : Nat} {v : Value} {x : DataW H × List MemPlace} (hf : DataW.trod enc Tryd.prog W base (fun _ => true) held fuel 33 [v] = some x) :
    ∃ a l c, v = .slice a l.length c ∧ Rules W a l ∧ okRs l ∧ l.length ≤ maxLen ∧ l.length ≤ c := by
  rcases open_slice Tryd.underlying33 hf with ⟨hcs, _⟩ | ⟨a, len, cap, m, n, D, Pl, hcs, _, hl, hm, hmm, _, hx⟩
  · simp at hcs
    exact ⟨none, [], 0, hcs, Or.inl rfl, fun i hi => absurd hi (by simp), by simp, by simp⟩
  · simp at hcs hmm
    subst hmm
    have ce : Tryd.prog.cellsOf 65 = 2 := by kernel_rfl
    rw [ce] at hx
    have key : ∀ i, i < m → ∃ n : RD, okR n ∧ (∃ aa c, W.cell? (a.add (i * 2)) = some (.slice aa n.sels.length c) ∧ n.sels.length ≤ c ∧ Selss W aa n.sels) ∧ (∃ aa c, W.cell? (a.add (i * 2 + 1)) = some (.slice aa n.decls.length c) ∧ n.decls.length ≤ c ∧ DeclsO W aa n.decls) := by
      intro i hi
      obtain ⟨cs', h1, h2⟩ := hx i hi
      obtain ⟨_, hlen, hcell⟩ := World.cells?_some h1
      obtain ⟨xs, k, hk, hxy, _, hxl, hf⟩ := DataW.trod_struct Tryd.underlying65 h2
      match xs, hxl, cs', hlen with
      | [y0, y1], _, [v0, v1], _ =>
        have g0 := hf 0 _ rfl
        have g1 := hf 1 _ rfl
        have e9 : Tryd.prog.cellsOf 62 = 1 := by kernel_rfl
        have es : Tryd.prog.cellsOf 63 = 1 := by kernel_rfl
        simp [e9, es] at g0 g1
        obtain ⟨aa, l, c, rfl, hp, hok, hml, hcap⟩ := selss_of g0
        obtain ⟨ab, l2, c2, rfl, hp2, hok2, hml2, hcap2⟩ := decls_of g1
        have c0 := hcell 0 (by omega)
        have c1 := hcell 1 (by omega)
        rw [add_add] at c0 c1
        exact ⟨⟨l, l2⟩, ⟨hml, hok, hml2, hok2⟩, ⟨aa, c, by simpa using c0, hcap, hp⟩, ⟨ab, c2, by simpa using c1, hcap2, hp2⟩⟩
    haveI : Inhabited RD := ⟨noRD⟩
    obtain ⟨N, hN⟩ := choose_lt key
    have en : ∀ i, i < len → ruleAt ((List.range len).map N) i = N i := fun i hi => by simp [ruleAt, hi]
    refine ⟨some a, (List.range len).map N, m, by simp [hcs], ?_, fun i hi => ?_, by simp; omega, by simp; omega⟩
    · by_cases h0 : len = 0
      · subst h0; exact Or.inl rfl
      · obtain ⟨aa, c, hc, _⟩ := (hN 0 (by omega)).2.1
        have ea := addr_spot (show W.cell? (a.add 0) = some _ by simpa using hc)
        refine Or.inr ⟨a.block, a.off, by rw [← ea], ?_, fun i hi => ?_⟩
        · rw [ea, add_at] at hc
          exact World.block_lt_of_cell? W ⟨a.block, a.off + 0 * 2, none⟩ hc
        · have hi' : i < len := by simpa using hi
          obtain ⟨_, ⟨ab, c2, g0, g1, g2⟩, ⟨ac, c3, k0, k1, k2⟩⟩ := hN i (by omega)
          rw [ea, add_at] at g0 k0
          rw [en i hi']
          exact ⟨⟨ab, c2, g0, g1, g2⟩, ⟨ac, c3, by rw [Nat.add_assoc]; exact k0, k1, k2⟩⟩
    · have hi' : i < len := by simpa using hi
      rw [en i hi']
      exact (hN i (by omega)).1
set_option maxRecDepth 100000 in
theorem open_rules {r : Reach} {b0 : Nat} {v : Value} {d : DataW H} {p : List MemPlace} (hv : Value.okWide Tryd.prog W r b0 33 v) (h : DataW.Trod enc Tryd.prog W base (fun _ => true) held 33 v d p) :
    ∃ a l c, v = .slice a l.length c ∧ Rules W a l ∧ okRs l ∧ l.length ≤ maxLen := by
  obtain ⟨a0, len0, cap0, rfl⟩ := okWide_slice Tryd.underlying33 hv
  obtain ⟨fuel, hf⟩ := h
  obtain ⟨a, l, c, h1, h2, h3, h4, _⟩ := rules_of (v := .slice a0 len0 cap0) (by simpa [Value.cells] using hf)
  exact ⟨a, l, c, h1, h2, h3, h4⟩
end
end Go.Proofs.YtnkmdmmlpidcmaaDoor
