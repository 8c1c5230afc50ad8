/-
  Rows of selectors and of rules, and what the laws' helpers that hold two against each other do; each theorem names its conditions.
  Rules in memory; each theorem names its conditions.
  How much rules hold; each theorem names its conditions.
  The specification's draw of a declaration; each theorem names its conditions.
-/
import Derived.Test.YtnkmdmmlpidcmaaGreatDoorJAJ
import Derived.Test.YtnkmdmmlpidcmaaGreatDoorJAQ
import Derived.Test.YtnkmdmmlpidcmaaGreatDoorJAD
import Derived.Test.YtnkmdmmlpidcmaaGreatDoorJAO
namespace Go.Proofs.YtnkmdmmlpidcmaaGreatDoor
open Go.ChangeShapes Go.WideShapes Go.ChangeAt Go.RowKit
set_option linter.unusedVariables false

/-- A rule. -/
structure RD where
  sels : List (List PD)
  decls : List DD
def noRD : RD := ⟨[], []⟩
def ESel : Els (List PD) := fun w cs l F => ∃ v, cs = [v] ∧ RowM 3 EPart w v l F
theorem ESel.kept : KeptE ESel := fun w w' cs x F G ⟨u, h1, h2⟩ k d => ⟨u, h1, h2.kept EPart.kept k d⟩
def ERule : Els RD := fun w cs r F => ∃ v1 v2 F1 F2, cs = [v1, v2] ∧ RowM 1 ESel w v1 r.sels F1 ∧ RowM 3 EDecl w v2 r.decls F2 ∧ (∀ b, F1 b → F b) ∧ (∀ b, F2 b → F b) ∧ disj F1 F2
theorem ERule.kept : KeptE ERule := fun w w' cs x F G ⟨v1, v2, F1, F2, h1, h2, h3, h4, h5, h6⟩ k d => ⟨v1, v2, F1, F2, h1, h2.kept ESel.kept k (fun b hb => d b (h4 b hb)), h3.kept EDecl.kept k (fun b hb => d b (h5 b hb)), h4, h5, h6⟩
theorem info_sel : (Tryz.prog.info? 34).map (fun i => (i.zero, i.size, i.bytes)) = some (some (.slice none 0 0), 1, 24) := by kernel_rfl
theorem info_rule : (Tryz.prog.info? 32).map (fun i => (i.zero, i.size, i.bytes)) = some (some (.agg #[.slice none 0 0, .slice none 0 0]), 2, 48) := by kernel_rfl
/-- What lies in an element is written, its cells stay. -/
theorem RowA.inner {n : Nat} {α : Type} {E : Els α} (hE : KeptE E) {w w' : World} {g : Nat} {els : List (El α)} {F : Nat → Prop} (h : RowA n E w g els F) (k : Nat) (e : El α) (x' : α) (hk : els[k]? = some e)
    (hw : Wr e.F w w') (hx : E w' e.cs x' e.F) : RowA n E w' g (els.set k ⟨x', e.cs, e.F⟩) F := by
  have hm : e ∈ els := List.mem_of_getElem? hk
  have hb := hw.block g h.lt (fun hb => ((h.el e hm).2.2 g hb).2 rfl)
  have cc : ∀ o, w'.cell? ⟨g, o, none⟩ = w.cell? ⟨g, o, none⟩ := fun o => World.cell?_of_block (w := w) (a := ⟨g, o, none⟩) hb
  exact h.step hE k e x' e.cs hk (h.el e hm).2.1 (hw.mono (fun b hb => Or.inr hb)) (fun o => by rw [World.frozen?_of_block (w := w) (a := ⟨g, o, none⟩) hb]; exact h.fz o) (fun j u hj => by rw [cc]; exact h.cell k e hk j u hj) (fun i j _ _ => cc _) hx
/-! ### Held against each other -/
def selAt (l : List (List PD)) (i : Nat) : List PD := l.getD i []
def lenSS (l : List (List PD)) : Prop := ∀ i, i < l.length → (selAt l i).length ≤ 1048576 ∧ lenPs (selAt l i)
theorem RowM.selAt {w : World} {v : Value} {l : List (List PD)} {F : Nat → Prop} (h : RowM 1 ESel w v l F) {k : Nat} (hk : k < l.length) : ∃ g c a n, v = .slice (some ⟨g, 0, none⟩) l.length c ∧ g < w.heap.size ∧ w.cell? ⟨g, k, none⟩ = some (.slice a (selAt l k).length n) ∧ Parts w a (selAt l k) := by
  rcases h with ⟨_, h2⟩ | ⟨g, c, els, h1, h2, h3, h4⟩
  · rw [h2] at hk; simp at hk
  · obtain ⟨e, he, hx⟩ := el_at h3 k hk []
    obtain ⟨u, hcs, hu⟩ := (h4.el e (List.mem_of_getElem? he)).1
    obtain ⟨a, n, hv, _, hp⟩ := hu.parts
    have c0 := h4.cell k e he 0 u (by rw [hcs]; rfl)
    have ex : e.x = Go.Proofs.YtnkmdmmlpidcmaaGreatDoor.selAt l k := hx
    rw [hv, ex] at c0
    rw [ex] at hp
    exact ⟨g, c, a, n, h1, h4.lt, by simpa using c0, hp⟩
set_option maxHeartbeats 4000000 in
theorem eqSS_any (w : World) (v1 v2 : Value) (l : List (List PD)) (F1 F2 : Nat → Prop) (hl : l.length ≤ 1048576) (hla : lenSS l) (h1 : RowM 1 ESel w v1 l F1) (h2 : RowM 1 ESel w v2 l F2) :
    Calls Tryz.prog 83 #[v1, v2] w fun e w' => e = .returned (.bool true) ∧ Nw w w' := by
  obtain ⟨a1, c1, rfl, _⟩ := h1.slice
  obtain ⟨a2, c2, rfl, _⟩ := h2.slice
  have H1 : Hid (RowM 1 ESel w (.slice a1 l.length c1) l F1) := h1
  have H2 : Hid (RowM 1 ESel w (.slice a2 l.length c2) l F2) := h2
  have HLA : Hid (lenSS l) := hla
  clear h1 h2 hla
  go_enter Tryz.func83, Tryz.ntmps83
  go_wp2
  go_loopw [5] (fun i wr => ∃ k : Nat, k ≤ l.length ∧ i = .int .i64 k ∧ Nw w wr) (fun i _ => l.length - (intOf i).toNat)
  case atStart => exact ⟨0, Nat.zero_le _, rfl, Below.refl _ _⟩
  case round =>
    obtain ⟨k, hk, rfl, hw⟩ := hrel
    by_cases hlt : k < l.length
    · obtain ⟨g1, d1, p1, n1, e1, hb1, q1, r1⟩ := (H1.out.nw ESel.kept hw).selAt hlt
      obtain ⟨g2, d2, p2, n2, e2, hb2, q2, r2⟩ := (H2.out.nw ESel.kept hw).selAt hlt
      injection e1 with e1 e1b e1c
      injection e2 with e2 e2b e2c
      clear e1b e1c e2b e2c
      subst e1 e2
      obtain ⟨hs1, hs2⟩ := HLA.out k hlt
      have Q4 : Hid (Parts wr.drew p1 (selAt l k)) := r1.nw ((Below.refl _ _).drew)
      have R4 : Hid (Parts wr.drew p2 (selAt l k)) := r2.nw ((Below.refl _ _).drew)
      have HL2 : Hid (lenPs (selAt l k)) := hs2
      have HW : Hid (Nw w wr) := hw
      clear r1 r2 hs2 hw H1 H2
      go_wp2
      go_region_with (go_at_call 115; refine Calls.mono (eqPartS_any _ p1 p2 n1 n2 (selAt l k) hs1 HL2.out Q4.out R4.out) ?_; rintro e w' ⟨rfl, k1⟩)
      all_goals
        go_wp2
        go_roundw
        case rel => exact ⟨k + 1, by omega, by go_num, HW.out.trans k1.drw⟩
        case measure => simp [intOf]; omega
    · have HW : Hid (Nw w wr) := hw
      clear hw
      go_wp2
      go_ret
      exact ⟨rfl, HW.out⟩
def ruleAt (l : List RD) (i : Nat) : RD := l.getD i noRD
structure lenR (r : RD) : Prop where
  s1 : r.sels.length ≤ 1048576
  s2 : lenSS r.sels
  s3 : r.decls.length ≤ 1048576
def lenRs (l : List RD) : Prop := ∀ i, i < l.length → lenR (ruleAt l i)
theorem eqRule_any (w : World) (u1 v1 u2 v2 : Value) (r : RD) (F1 F2 G1 G2 : Nat → Prop) (hl : lenR r) (h1 : RowM 1 ESel w u1 r.sels F1) (h2 : RowM 1 ESel w u2 r.sels F2) (h3 : RowM 3 EDecl w v1 r.decls G1) (h4 : RowM 3 EDecl w v2 r.decls G2) :
    Calls Tryz.prog 43 #[.agg #[u1, v1], .agg #[u2, v2]] w fun e w' => e = .returned (.bool true) ∧ Nw w w' := by
  obtain ⟨s1, s2, s3⟩ := hl
  have HS2 : Hid (lenSS r.sels) := s2
  clear s2
  have HB : ∀ o1 o2, Hid (Nw w ((w.alloc o1).alloc o2)) := fun o1 o2 => ((Below.refl _ _).alloc (Nat.le_refl _) _).alloc (by simp) _
  have H1 : Hid (RowM 1 ESel w u1 r.sels F1) := h1
  have H2 : Hid (RowM 1 ESel w u2 r.sels F2) := h2
  have H3 : Hid (RowM 3 EDecl w v1 r.decls G1) := h3
  have H4 : Hid (RowM 3 EDecl w v2 r.decls G2) := h4
  obtain ⟨a1, c1, rfl, _⟩ := h1.slice
  obtain ⟨a2, c2, rfl, _⟩ := h2.slice
  obtain ⟨b1, d1, rfl, _⟩ := h3.slice
  obtain ⟨b2, d2, rfl, _⟩ := h4.slice
  clear h1 h2 h3 h4
  go_enter Tryz.func43, Tryz.ntmps43
  go_wp2_with fail
  refine Calls.mono (eqSS_any _ _ _ r.sels F1 F2 s1 HS2.out (H1.out.nw ESel.kept (HB _ _).out) (H2.out.nw ESel.kept (HB _ _).out)) ?_
  rintro e w1 ⟨rfl, k1⟩
  obtain ⟨hc, hf⟩ := bcell k1
  have HN1 : Hid (Nw w w1) := Nw.trans (HB _ _).out k1
  obtain ⟨e1, f1, g1, _, i1⟩ := (H3.out.nw EDecl.kept HN1.out).decls
  obtain ⟨e2, f2, g2, _, i2⟩ := (H4.out.nw EDecl.kept HN1.out).decls
  injection g1 with g1 g1b g1c
  injection g2 with g2 g2b g2c
  clear g1b g1c g2b g2c
  subst g1 g2
  have I1 : Hid (Decls w1 b1 r.decls) := i1
  have I2 : Hid (Decls w1 b2 r.decls) := i2
  clear i1 i2 k1
  go_wp2_with fail
  refine Calls.mono (eqDeclS_any _ b1 b2 d1 d2 r.decls s3 I1.out I2.out) ?_
  rintro e w2 ⟨rfl, k2⟩
  go_wp2
  go_ret
  exact ⟨rfl, Nw.trans HN1.out k2⟩
theorem RowM.ruleAt {w : World} {v : Value} {l : List RD} {F : Nat → Prop} (h : RowM 2 ERule w v l F) {k : Nat} (hk : k < l.length) : ∃ g c u1 u2 F1 F2, v = .slice (some ⟨g, 0, none⟩) l.length c ∧ g < w.heap.size ∧ w.cell? ⟨g, k * 2, none⟩ = some u1 ∧ w.cell? ⟨g, k * 2 + 1, none⟩ = some u2 ∧ RowM 1 ESel w u1 (ruleAt l k).sels F1 ∧ RowM 3 EDecl w u2 (ruleAt l k).decls F2 := by
  rcases h with ⟨_, h2⟩ | ⟨g, c, els, h1, h2, h3, h4⟩
  · rw [h2] at hk; simp at hk
  · obtain ⟨e, he, hx⟩ := el_at h3 k hk noRD
    obtain ⟨u1, u2, F1, F2, hcs, hu1, hu2, _, _, _⟩ := (h4.el e (List.mem_of_getElem? he)).1
    have c0 := h4.cell k e he 0 u1 (by rw [hcs]; rfl)
    have c1 := h4.cell k e he 1 u2 (by rw [hcs]; rfl)
    have ex : e.x = Go.Proofs.YtnkmdmmlpidcmaaGreatDoor.ruleAt l k := hx
    rw [ex] at hu1 hu2
    exact ⟨g, c, u1, u2, F1, F2, h1, h4.lt, by simpa using c0, c1, hu1, hu2⟩
set_option maxHeartbeats 4000000 in
theorem eqRuleS_any (w : World) (v1 v2 : Value) (l : List RD) (F1 F2 : Nat → Prop) (hl : l.length ≤ 1048576) (hla : lenRs l) (h1 : RowM 2 ERule w v1 l F1) (h2 : RowM 2 ERule w v2 l F2) :
    Calls Tryz.prog 16 #[v1, v2] w fun e w' => e = .returned (.bool true) ∧ Nw w w' := by
  obtain ⟨a1, c1, rfl, _⟩ := h1.slice
  obtain ⟨a2, c2, rfl, _⟩ := h2.slice
  have H1 : Hid (RowM 2 ERule w (.slice a1 l.length c1) l F1) := h1
  have H2 : Hid (RowM 2 ERule w (.slice a2 l.length c2) l F2) := h2
  have HLA : Hid (lenRs l) := hla
  clear h1 h2 hla
  go_enter Tryz.func16, Tryz.ntmps16
  go_wp2
  go_loopw [5] (fun i wr => ∃ k : Nat, k ≤ l.length ∧ i = .int .i64 k ∧ Nw w wr) (fun i _ => l.length - (intOf i).toNat)
  case atStart => exact ⟨0, Nat.zero_le _, rfl, Below.refl _ _⟩
  case round =>
    obtain ⟨k, hk, rfl, hw⟩ := hrel
    by_cases hlt : k < l.length
    · obtain ⟨g1, d1, p1, n1, X1, Y1, e1, hb1, q1, r1, s1, t1⟩ := (H1.out.nw ERule.kept hw).ruleAt hlt
      obtain ⟨g2, d2, p2, n2, X2, Y2, e2, hb2, q2, r2, s2, t2⟩ := (H2.out.nw ERule.kept hw).ruleAt hlt
      injection e1 with e1 e1b e1c
      injection e2 with e2 e2b e2c
      clear e1b e1c e2b e2c
      subst e1 e2
      have HL2 : Hid (lenR (ruleAt l k)) := HLA.out k hlt
      have D0 : Nw wr wr.drew := (Below.refl _ _).drew
      have S1 : Hid _ := s1.nw ESel.kept D0
      have S2 : Hid _ := s2.nw ESel.kept D0
      have T1 : Hid _ := t1.nw EDecl.kept D0
      have T2 : Hid _ := t2.nw EDecl.kept D0
      have HW : Hid (Nw w wr) := hw
      obtain ⟨pa, pc, hp1, _⟩ := s1.slice
      obtain ⟨pb, pd, hp2, _⟩ := s2.slice
      obtain ⟨na, nc, hn1, _⟩ := t1.slice
      obtain ⟨nb, nd, hn2, _⟩ := t2.slice
      subst hp1 hp2 hn1 hn2
      clear s1 s2 t1 t2 hw H1 H2 D0
      go_wp2
      go_region_with (go_at_call 43; refine Calls.mono (eqRule_any _ _ _ _ _ (ruleAt l k) X1 X2 Y1 Y2 HL2.out S1.out S2.out T1.out T2.out) ?_; rintro e w' ⟨rfl, k1⟩)
      all_goals
        go_wp2
        go_roundw
        case rel => exact ⟨k + 1, by omega, by go_num, HW.out.trans k1.drw⟩
        case measure => simp [intOf]; omega
    · have HW : Hid (Nw w wr) := hw
      clear hw
      go_wp2
      go_ret
      exact ⟨rfl, HW.out⟩
end Go.Proofs.YtnkmdmmlpidcmaaGreatDoor
namespace Go.Proofs.YtnkmdmmlpidcmaaGreatDoor
open Go.ChangeShapes Go.WideShapes Go.ChangeAt Go.RowKit
set_option linter.unusedVariables false

/-- Declarations at any place. -/
def DeclsO (w : World) (a : Option Addr) (l : List DD) : Prop :=
  l = [] ∨ ∃ b o, a = some ⟨b, o, none⟩ ∧ b < w.heap.size ∧ ∀ i, i < l.length → w.cell? ⟨b, o + i * 3, none⟩ = some (.string (declAt l i).nm) ∧ w.cell? ⟨b, o + i * 3 + 1, none⟩ = some (.string (declAt l i).vl) ∧ w.cell? ⟨b, o + i * 3 + 2, none⟩ = some (.bool (declAt l i).im)
theorem DeclsO.nw {w w' : World} {a : Option Addr} {l : List DD} (h : DeclsO w a l) (k : Nw w w') : DeclsO w' a l := by
  rcases h with h | ⟨b, o, rfl, hb, hc⟩
  · exact Or.inl h
  · refine Or.inr ⟨b, o, rfl, Nat.lt_of_lt_of_le hb (Below.size k), fun i hi => ?_⟩
    obtain ⟨h0, h1, h2⟩ := hc i hi
    exact ⟨((bcell k).1 _ _ hb).trans h0, ((bcell k).1 _ _ hb).trans h1, ((bcell k).1 _ _ hb).trans h2⟩
/-- Selectors at any place. -/
def Selss (w : World) (a : Option Addr) (l : List (List PD)) : Prop :=
  l = [] ∨ ∃ b o, a = some ⟨b, o, none⟩ ∧ b < w.heap.size ∧ ∀ i, i < l.length → ∃ aa c, w.cell? ⟨b, o + i, none⟩ = some (.slice aa (selAt l i).length c) ∧ (selAt l i).length ≤ c ∧ Parts w aa (selAt l i)
theorem Selss.nw {w w' : World} {a : Option Addr} {l : List (List PD)} (h : Selss w a l) (k : Nw w w') : Selss w' a l := by
  rcases h with h | ⟨b, o, rfl, hb, hc⟩
  · exact Or.inl h
  · refine Or.inr ⟨b, o, rfl, Nat.lt_of_lt_of_le hb (Below.size k), fun i hi => ?_⟩
    obtain ⟨aa, c, h0, h1, h2⟩ := hc i hi
    exact ⟨aa, c, ((bcell k).1 _ _ hb).trans h0, h1, h2.nw k⟩
/-- Rules at any place. -/
def Rules (w : World) (a : Option Addr) (l : List RD) : Prop :=
  l = [] ∨ ∃ b o, a = some ⟨b, o, none⟩ ∧ b < w.heap.size ∧ ∀ i, i < l.length →
    (∃ aa c, w.cell? ⟨b, o + i * 2, none⟩ = some (.slice aa (ruleAt l i).sels.length c) ∧ (ruleAt l i).sels.length ≤ c ∧ Selss w aa (ruleAt l i).sels) ∧
    (∃ aa c, w.cell? ⟨b, o + i * 2 + 1, none⟩ = some (.slice aa (ruleAt l i).decls.length c) ∧ (ruleAt l i).decls.length ≤ c ∧ DeclsO w aa (ruleAt l i).decls)
theorem Rules.nw {w w' : World} {a : Option Addr} {l : List RD} (h : Rules w a l) (k : Nw w w') : Rules w' a l := by
  rcases h with h | ⟨b, o, rfl, hb, hc⟩
  · exact Or.inl h
  · refine Or.inr ⟨b, o, rfl, Nat.lt_of_lt_of_le hb (Below.size k), fun i hi => ?_⟩
    obtain ⟨⟨aa, c, h0, h1, h2⟩, ⟨ab, d, g0, g1, g2⟩⟩ := hc i hi
    exact ⟨⟨aa, c, ((bcell k).1 _ _ hb).trans h0, h1, h2.nw k⟩, ⟨ab, d, ((bcell k).1 _ _ hb).trans g0, g1, g2.nw k⟩⟩
end Go.Proofs.YtnkmdmmlpidcmaaGreatDoor
namespace Go.Proofs.YtnkmdmmlpidcmaaGreatDoor
open Go.ChangeShapes Go.WideShapes Go.ChangeAt Go.RowKit
set_option linter.unusedVariables false

def bulkD (d : DD) : Nat := d.nm.size + d.vl.size
structure okD (d : DD) : Prop where
  o1 : d.nm.size ≤ maxLen
  o2 : d.vl.size ≤ maxLen
def bulkX (l : List PD) : Nat := l.length + bulkPs l
structure okX (l : List PD) : Prop where
  o1 : l.length ≤ maxLen
  o2 : okPDs l
def bulkDs (l : List DD) : Nat := (l.map bulkD).sum
theorem bulkDs_step (l : List DD) (k : Nat) (h : k < l.length) : bulkDs (l.take (k + 1)) = bulkDs (l.take k) + bulkD (declAt l k) := by
  unfold bulkDs
  rw [List.take_add_one, List.getElem?_eq_getElem h]
  have e : declAt l k = l[k] := by simp [declAt, h]
  rw [e]
  simp only [Option.toList, List.map_append, List.map_cons, List.map_nil, List.sum_append, List.sum_cons, List.sum_nil, Nat.add_zero]
theorem bulkDs_le (l : List DD) (k : Nat) : bulkDs (l.take k) ≤ bulkDs l := by
  unfold bulkDs
  conv => rhs; rw [← List.take_append_drop k l]
  rw [List.map_append, List.sum_append]
  omega
def szbulkDs (l : List DD) (left : Int) : Int := if ((l.length + bulkDs l : Nat) : Int) ≤ left then left - ((l.length + bulkDs l : Nat) : Int) else -1
def okDs (l : List DD) : Prop := ∀ i, i < l.length → okD (declAt l i)
def bulkSS (l : List (List PD)) : Nat := (l.map bulkX).sum
theorem bulkSS_step (l : List (List PD)) (k : Nat) (h : k < l.length) : bulkSS (l.take (k + 1)) = bulkSS (l.take k) + bulkX (selAt l k) := by
  unfold bulkSS
  rw [List.take_add_one, List.getElem?_eq_getElem h]
  have e : selAt l k = l[k] := by simp [selAt, h]
  rw [e]
  simp only [Option.toList, List.map_append, List.map_cons, List.map_nil, List.sum_append, List.sum_cons, List.sum_nil, Nat.add_zero]
theorem bulkSS_le (l : List (List PD)) (k : Nat) : bulkSS (l.take k) ≤ bulkSS l := by
  unfold bulkSS
  conv => rhs; rw [← List.take_append_drop k l]
  rw [List.map_append, List.sum_append]
  omega
def szbulkSS (l : List (List PD)) (left : Int) : Int := if ((l.length + bulkSS l : Nat) : Int) ≤ left then left - ((l.length + bulkSS l : Nat) : Int) else -1
def okSS (l : List (List PD)) : Prop := ∀ i, i < l.length → okX (selAt l i)
def bulkR (r : RD) : Nat := (r.sels.length + bulkSS r.sels) + (r.decls.length + bulkDs r.decls)
structure okR (r : RD) : Prop where
  o1 : r.sels.length ≤ maxLen
  o2 : okSS r.sels
  o3 : r.decls.length ≤ maxLen
  o4 : okDs r.decls
def bulkRs (l : List RD) : Nat := (l.map bulkR).sum
theorem bulkRs_step (l : List RD) (k : Nat) (h : k < l.length) : bulkRs (l.take (k + 1)) = bulkRs (l.take k) + bulkR (ruleAt l k) := by
  unfold bulkRs
  rw [List.take_add_one, List.getElem?_eq_getElem h]
  have e : ruleAt l k = l[k] := by simp [ruleAt, h]
  rw [e]
  simp only [Option.toList, List.map_append, List.map_cons, List.map_nil, List.sum_append, List.sum_cons, List.sum_nil, Nat.add_zero]
theorem bulkRs_le (l : List RD) (k : Nat) : bulkRs (l.take k) ≤ bulkRs l := by
  unfold bulkRs
  conv => rhs; rw [← List.take_append_drop k l]
  rw [List.map_append, List.sum_append]
  omega
def szbulkRs (l : List RD) (left : Int) : Int := if ((l.length + bulkRs l : Nat) : Int) ≤ left then left - ((l.length + bulkRs l : Nat) : Int) else -1
def okRs (l : List RD) : Prop := ∀ i, i < l.length → okR (ruleAt l i)
end Go.Proofs.YtnkmdmmlpidcmaaGreatDoor
namespace Go.Proofs.YtnkmdmmlpidcmaaGreatDoor
open Go.ChangeShapes Go.WideShapes Go.ChangeAt Go.RowKit
set_option linter.unusedVariables false

/-- A declaration in a variable. -/
structure Bd (w : World) (b : Nat) (x y : ByteArray) (z : Bool) : Prop where
  c0 : w.cell? ⟨b, 0, none⟩ = some (.string x)
  c1 : w.cell? ⟨b, 1, none⟩ = some (.string y)
  c2 : w.cell? ⟨b, 2, none⟩ = some (.bool z)
  fz : ∀ o, w.frozen? ⟨b, o, none⟩ = false
theorem Bd.lt {w : World} {b : Nat} {x y : ByteArray} {z : Bool} (h : Bd w b x y z) : b < w.heap.size := World.block_lt_of_cell? w ⟨b, 0, none⟩ h.c0
theorem Bd.new (w : World) (x y : ByteArray) (z : Bool) (t : TypeId) : Bd (w.alloc (.cells #[.string x, .string y, .bool z] t)) w.heap.size x y z :=
  ⟨by simp, by simp, by simp, fun o => World.frozen?_alloc_at _ _ _ _ rfl⟩
theorem Bd.gr {w w' : World} {b B : Nat} {x y : ByteArray} {z : Bool} (h : Bd w b x y z) (k : Gr B w w') (hb : B < b) : Bd w' b x y z := by
  have e := fun o => k.cell h.lt (by omega) o
  exact ⟨(e 0).trans h.c0, (e 1).trans h.c1, (e 2).trans h.c2, fun o => (k.frozen h.lt (by omega) o).trans (h.fz o)⟩
theorem Bd.off {w : World} {b b2 o : Nat} {u : Value} {x y : ByteArray} {z : Bool} (h : Bd w b x y z) (hne : b ≠ b2) : Bd (w.setCell ⟨b2, o, none⟩ u) b x y z := by
  have far : ∀ i, (w.setCell ⟨b2, o, none⟩ u).cell? ⟨b, i, none⟩ = w.cell? ⟨b, i, none⟩ := fun i => World.cell?_setCell_other _ _ _ _ (fun e => by injection e; omega)
  exact ⟨(far 0).trans h.c0, (far 1).trans h.c1, (far 2).trans h.c2, fun i => by rw [World.frozen?_setCell]; exact h.fz i⟩
theorem Bd.vl {w : World} {b : Nat} {x y : ByteArray} {z : Bool} (h : Bd w b x y z) (y' : ByteArray) : Bd (w.setCell ⟨b, 1, none⟩ (.string y')) b x y' z := by
  have far : ∀ i, i ≠ 1 → (w.setCell ⟨b, 1, none⟩ (.string y')).cell? ⟨b, i, none⟩ = w.cell? ⟨b, i, none⟩ := fun i hi => World.cell?_setCell_other _ _ _ _ (fun e => by injection e; omega)
  exact ⟨(far 0 (by omega)).trans h.c0, World.cell?_setCell_same w ⟨b, 1, none⟩ _ h.c1, (far 2 (by omega)).trans h.c2, fun i => by rw [World.frozen?_setCell]; exact h.fz i⟩
def DeclDrawn (e : Ending) : Prop := ∃ d : DD, e = .returned (.agg #[.string d.nm, .string d.vl, .bool d.im]) ∧ bulkD d ≤ 100
set_option maxRecDepth 100000 in
set_option maxHeartbeats 8000000 in
theorem declOf_any (w : World) (B : Nat) (ca : Option Addr) (len cap n : Nat) (hl : len ≤ 9223372036854775807) (hn : n ≤ 10000000) (hc : Cur w B ca len cap n) (hd : Code w B ca len) :
    Calls Tryz.prog 58 #[.pointer (some ⟨B, 0, none⟩)] w fun e w' => DeclDrawn e ∧ Cur w' B ca len cap (n + 20) ∧ Gr B w w' := by
  have hB := hc.lt
  have HB : Hid (B < w.heap.size) := hB
  obtain ⟨W0, hW0⟩ : ∃ W0, w.alloc (.cells #[.string ⟨#[]⟩, .string ⟨#[]⟩, .bool false] 36) = W0 := ⟨_, rfl⟩
  have R0 : Hid (Bd W0 w.heap.size ⟨#[]⟩ ⟨#[]⟩ false) := by show Bd _ _ _ _ _; rw [← hW0]; exact Bd.new w _ _ _ _
  have C0 : Hid (Cur W0 B ca len cap n) := by show Cur _ _ _ _ _ _; rw [← hW0]; exact hc.alloc _ _
  have G0 : Hid (Gr B w W0) := by show Gr _ _ _; rw [← hW0]; exact (Gr.refl B w).alloc _
  have DC : Hid (∀ w', Gr B w w' → Code w' B ca len) := fun w' h => Code.below hd (h.below (by omega))
  have HS0 : Hid (W0.heap.size = w.heap.size + 1) := by show _ = _; rw [← hW0]; simp
  have HW0 : Hid (_ = W0) := hW0
  clear hc hd hB hW0
  go_enter Tryz.func58, Tryz.ntmps58
  go_wp2_with fail
  rw [HW0.out]
  refine (of_litL W0 B 20 _ HS0.out [⟨#[102, 105, 108, 108]⟩, ⟨#[115, 116, 114, 111, 107, 101]⟩, ⟨#[115, 116, 114, 111, 107, 101, 45, 119, 105, 100, 116, 104]⟩, ⟨#[111, 112, 97, 99, 105, 116, 121]⟩, ⟨#[99, 111, 108, 111, 114]⟩, ⟨#[102, 105, 108, 108, 45, 114, 117, 108, 101]⟩] (by decide) 9 ca len cap n hl (by omega) (by decide) (by decide) C0.out (DC.out _ G0.out)).mono ?_
  rintro e w1 ⟨nm, rfl, hnm, hc1, hg1⟩
  have C1 : Hid (Cur w1 B ca len cap (n + 2)) := hc1
  have G1 : Hid (Gr B w w1) := Gr.trans G0.out hg1
  have R1 : Hid (Bd w1 w.heap.size ⟨#[]⟩ ⟨#[]⟩ false) := R0.out.gr hg1 HB.out
  clear hc1 hg1 R0 C0 G0
  go_wp2_with fail
  refine (one_any w1 B ca len cap (n + 2) 6 hl (by omega) (by omega) (by omega) C1.out (DC.out _ G1.out)).mono ?_
  rintro e w2 ⟨im, rfl, hc2, hb2⟩
  obtain ⟨W2, hW2⟩ : ∃ W2, w2.alloc (.cells #[.string nm, .string ⟨#[]⟩, .bool im] 36) = W2 := ⟨_, rfl⟩
  have C2 : Hid (Cur W2 B ca len cap (n + 2 + 2)) := by show Cur _ _ _ _ _ _; rw [← hW2]; exact hc2.alloc _ _
  have G12 : Hid (Gr B w1 W2) := by show Gr _ _ _; rw [← hW2]; exact (Gr.of_sel hb2).alloc _
  have G2 : Hid (Gr B w W2) := Gr.trans G1.out G12.out
  have R2 : Hid (Bd W2 w.heap.size ⟨#[]⟩ ⟨#[]⟩ false) := R1.out.gr G12.out HB.out
  have D2 : Hid (Bd W2 w2.heap.size nm ⟨#[]⟩ im) := by show Bd _ _ _ _ _; rw [← hW2]; exact Bd.new w2 _ _ _ _
  have hlt2 : w.heap.size < w2.heap.size := Nat.lt_of_lt_of_le R1.out.lt (Gr.of_sel hb2).size
  have HBD : Hid (B < w2.heap.size) := Nat.lt_trans HB.out hlt2
  have HS2 : Hid (W2.heap.size = w2.heap.size + 1) := by show _ = _; rw [← hW2]; simp
  have HW2 : Hid (_ = W2) := hW2
  clear hc2 hb2 hW2 R1 C1 G12
  go_wp2_with fail
  rw [HW2.out]
  refine (of_litL W2 B 20 _ HS2.out [⟨#[114, 101, 100]⟩, ⟨#[35, 48, 48, 102]⟩, ⟨#[110, 111, 110, 101]⟩, ⟨#[49]⟩, ⟨#[50, 46, 53]⟩, ⟨#[105, 110, 104, 101, 114, 105, 116]⟩, ⟨#[101, 118, 101, 110, 111, 100, 100]⟩, ⟨#[99, 117, 114, 114, 101, 110, 116, 67, 111, 108, 111, 114]⟩, ⟨#[48, 46, 53]⟩] (by decide) 9 ca len cap (n + 2 + 2) hl (by omega) (by decide) (by decide) C2.out (DC.out _ G2.out)).mono ?_
  rintro e w3 ⟨vl, rfl, hvl, hc3, hg3⟩
  have R3 : Hid (Bd w3 w.heap.size ⟨#[]⟩ ⟨#[]⟩ false) := R2.out.gr hg3 HB.out
  have D3 : Hid (Bd w3 w2.heap.size nm ⟨#[]⟩ im) := D2.out.gr hg3 HBD.out
  have C3 : Hid (Cur w3 B ca len cap (n + 2 + 2 + 2)) := hc3
  have G3 : Hid (Gr B w w3) := Gr.trans G2.out hg3
  clear hc3 hg3 R2 D2 C2 G2
  obtain ⟨W3, hW3⟩ : ∃ W3, w3.setCell ⟨w2.heap.size, 1, none⟩ (.string vl) = W3 := ⟨_, rfl⟩
  have R4 : Hid (Bd W3 w.heap.size ⟨#[]⟩ ⟨#[]⟩ false) := by show Bd _ _ _ _ _; rw [← hW3]; exact R3.out.off (by omega)
  have D4 : Hid (Bd W3 w2.heap.size nm vl im) := by show Bd _ _ _ _ _; rw [← hW3]; exact D3.out.vl vl
  have C4 : Hid (Cur W3 B ca len cap (n + 2 + 2 + 2)) := by show Cur _ _ _ _ _ _; rw [← hW3]; exact C3.out.set (by have := HBD.out; omega) _ _
  have G4 : Hid (Gr B w W3) := by show Gr _ _ _; rw [← hW3]; exact G3.out.set (by omega) _ _
  have HW3 : Hid (_ = W3) := hW3
  obtain ⟨y0, y1, y2, yf⟩ := D3.out
  clear hW3 R3 D3 C3 G3
  go_wp2_with fail
  rw [HW3.out]
  refine (one_any W3 B ca len cap (n + 2 + 2 + 2) 40 hl (by omega) (by omega) (by omega) C4.out (DC.out _ G4.out)).mono ?_
  rintro e w5 ⟨b5, rfl, hc5, hb5⟩
  have R5 : Hid (Bd w5 w.heap.size ⟨#[]⟩ ⟨#[]⟩ false) := R4.out.gr (Gr.of_sel hb5) HB.out
  have D5 : Hid (Bd w5 w2.heap.size nm vl im) := D4.out.gr (Gr.of_sel hb5) HBD.out
  have C5 : Hid (Cur w5 B ca len cap (n + 2 + 2 + 2 + 2)) := hc5
  have G5 : Hid (Gr B w w5) := Gr.trans G4.out (Gr.of_sel hb5)
  clear hc5 hb5 R4 D4 C4 G4 y0 y1 y2 yf HW3 HW2 HW0
  go_upto_if 15 with fail
  go_cut [] (fun wx => ∃ v2 : ByteArray, v2.size ≤ 20 ∧ Bd wx w.heap.size ⟨#[]⟩ ⟨#[]⟩ false ∧ Bd wx w2.heap.size nm v2 im ∧ Cur wx B ca len cap (n + 10) ∧ Gr B w wx)
  case first =>
    cases b5 with
    | true =>
      go_wp2_with fail
      refine (of_lit w5 B 20 [⟨#[]⟩, ⟨#[32, 97]⟩, ⟨#[97, 59, 98]⟩, ⟨#[33, 120]⟩] (by decide) 9 ca len cap (n + 2 + 2 + 2 + 2) hl (by omega) (by decide) (by decide) C5.out (DC.out _ G5.out)).mono ?_
      rintro e w6 ⟨v2, rfl, hv2, hc6, hg6⟩
      have R6 : Hid (Bd w6 w.heap.size ⟨#[]⟩ ⟨#[]⟩ false) := R5.out.gr hg6 HB.out
      have D6 : Hid (Bd w6 w2.heap.size nm vl im) := D5.out.gr hg6 HBD.out
      have C6 : Hid (Cur w6 B ca len cap (n + 2 + 2 + 2 + 2 + 2)) := hc6
      have G6 : Hid (Gr B w w6) := Gr.trans G5.out hg6
      clear hc6 hg6
      obtain ⟨y0, y1, y2, yf⟩ := D6.out
      go_wp2
      go_meet
      exact ⟨v2, hv2, R6.out.off (by omega), D6.out.vl v2, C6.out.set (by have := HBD.out; omega) _ _, G6.out.set (by omega) _ _⟩
    | false =>
      go_wp2
      go_meet
      exact ⟨vl, hvl, R5.out, D5.out, C5.out.mono (by omega), G5.out⟩
  case rest =>
    obtain ⟨v2, hv2, hr, hd, hc, hg⟩ := hcut
    have CE : Hid (Cur wc B ca len cap (n + 10)) := hc
    have GE : Hid (Gr B w wc) := hg
    have hRB : w.heap.size ≠ B := by have := HB.out; omega
    obtain ⟨z0, z1, z2, zf⟩ := hr
    obtain ⟨x0, x1, x2, xf⟩ := hd
    clear hc hg R5 D5 C5 G5
    obtain ⟨y0, y1, y2⟩ := set3c wc w.heap.size (.string nm) (.string v2) (.bool im) z0 z1 z2
    go_wp2
    refine bodyPost_ret (v := .agg #[.string nm, .string v2, .bool im]) (by simp [results, Tryz.results58, go_sem, y0, y1, y2]) rfl ⟨⟨⟨nm, v2, im⟩, rfl, ?_⟩, ?_, ((GE.out.set (Nat.le_refl _) _ _).set (Nat.le_refl _) _ _).set (Nat.le_refl _) _ _⟩
    · unfold bulkD
      simp only
      omega
    · exact Cur.mono (((CE.out.set hRB _ _).set hRB _ _).set hRB _ _) (by omega)
end Go.Proofs.YtnkmdmmlpidcmaaGreatDoor
