/-
  A sheet read by the program; each theorem names its conditions.
  A sheet read by the specification; each theorem names its conditions.
  A sheet read by the specification, answered; each theorem names its conditions.
  Marks laid into rows of selectors and rules and looked for; each theorem names its conditions.
-/
import Derived.Test.YtnkmdmmlpidcmaaGreatDoorJAP
import Derived.Test.YtnkmdmmlpidcmaaGreatDoorJAN
import Derived.Test.YtnkmdmmlpidcmaaGreatDoorJAJ
import Derived.Test.YtnkmdmmlpidcmaaGreatDoorJAL
namespace Go.Proofs.YtnkmdmmlpidcmaaGreatDoor
open Go.ChangeShapes Go.WideShapes Go.ChangeAt Go.RowKit
set_option linter.unusedVariables false

def shtL (s : ByteArray) : List RD := if 1500 < s.size then [] else rules30 (bareB s)
def ShtSays (s : ByteArray) (w w' : World) (e : Ending) : Prop := ∃ v, e = .returned (.tuple #[v, .bool (!decide (1500 < s.size))]) ∧ RowM 2 ERule w' v (shtL s) (iv w w')
theorem iv_upR {w w1 w2 : World} (h : w.heap.size ≤ w1.heap.size) : ∀ b, iv w1 w2 b → iv w w2 b := fun b hb => ⟨Nat.le_trans h hb.1, hb.2⟩
set_option maxHeartbeats 2000000 in
theorem isheet (s : ByteArray) (w : World) (hm : MaxL w) (hs : s.size ≤ 1048576) :
    Calls Tryz.prog 9 #[.string s] w fun e w' => ShtSays s w w' e ∧ Nw w w' := by
  have HM : Hid (MaxL w) := hm
  clear hm
  unfold ShtSays shtL
  by_cases h : 1500 < s.size
  · have hd : decide (1500 < (s.size : Int)) = true := by simp; omega
    rw [if_pos h, decide_eq_true h]
    go_enter Tryz.func9, Tryz.ntmps9
    go_wp2
    go_ret2
    exact ⟨⟨_, rfl, RowM.nil _ _ _ _⟩, Below.refl _ _⟩
  · have hd : decide (1500 < (s.size : Int)) = false := by simp; omega
    rw [if_neg h, decide_eq_false h]
    have hbs := bareB_size s
    go_enter Tryz.func9, Tryz.ntmps9
    go_wp2_with fail
    refine Calls.mono (iwithout s _ HM.out hs) ?_
    rintro e w1 ⟨rfl, k1⟩
    have HN1 : Hid (Nw w w1) := k1
    clear k1
    go_wp2_with fail
    refine Calls.mono (irules (bareB s) _ (by omega)) ?_
    rintro e w2 ⟨⟨v, rfl, hr⟩, k2⟩
    have HR : Hid (RowM 2 ERule w2 v (rules30 (bareB s)) (iv w1 w2)) := hr
    have HN2 : Hid (Nw w w2) := Nw.trans HN1.out k2
    obtain ⟨a, c, hv, _⟩ := hr.slice
    subst hv
    clear hr k2
    go_wp2
    go_ret2
    exact ⟨⟨_, rfl, HR.out.mono (iv_upR (Below.size HN1.out))⟩, HN2.out⟩
end Go.Proofs.YtnkmdmmlpidcmaaGreatDoor
namespace Go.Proofs.YtnkmdmmlpidcmaaGreatDoor
open Go.ChangeShapes Go.WideShapes Go.ChangeAt Go.RowKit
set_option linter.unusedVariables false

theorem RowO.setB {t : TypeId} {n : Nat} {α : Type} {E : Els α} (hE : KeptE E) {w : World} {B : Nat} {v : Value} {els : List (El α)} (h : RowO t n E w B v els) {g : Nat} (hg : g < B) (o : Nat) (u : Value) : RowO t n E (w.setCell ⟨g, o, none⟩ u) B v els := by
  have hs : (w.setCell ⟨g, o, none⟩ u).heap.size = w.heap.size := by simp [World.setCell]
  refine ⟨World.ownsRow.kept h.own (row := some g) set_grown (Or.inr (by intro e; have := (h.lt g e).1; omega)), fun e he => ?_, h.apart⟩
  obtain ⟨h1, h2, h3⟩ := h.el e he
  refine ⟨hE _ _ _ _ _ (fun x => x = g) h1 (Wr.set (F := fun x => x = g) (Wr.refl _ w) rfl o u) (fun x hx hf => ?_), h2, fun x hx => ?_⟩
  · have := (h3 x hx).1; omega
  · obtain ⟨a, c, d⟩ := h3 x hx
    exact ⟨a, by omega, d⟩
/-- A rule in a variable. -/
def Bx (w : World) (B : Nat) (u d : Value) : Prop := w.heap[B]? = some (.cells #[u, d] 32)
theorem Bx.lt {w : World} {B : Nat} {u d : Value} (h : Bx w B u d) : B < w.heap.size := by
  unfold Bx at h
  exact (Array.getElem?_eq_some_iff.1 h).1
theorem Bx.c0 {w : World} {B : Nat} {u d : Value} (h : Bx w B u d) : w.cell? ⟨B, 0, none⟩ = some u := by
  unfold Bx at h; simp [World.cell?, h]
theorem Bx.c1 {w : World} {B : Nat} {u d : Value} (h : Bx w B u d) : w.cell? ⟨B, 1, none⟩ = some d := by
  unfold Bx at h; simp [World.cell?, h]
theorem Bx.fz {w : World} {B : Nat} {u d : Value} (h : Bx w B u d) (o : Nat) : w.frozen? ⟨B, o, none⟩ = false := by
  unfold Bx at h; simp [World.frozen?, h]
theorem Bx.alloc (w : World) (u d : Value) : Bx (w.alloc (.cells #[u, d] 32)) w.heap.size u d := by
  show (w.heap.push _)[w.heap.size]? = _
  simp
theorem Bx.nw {w w' : World} {B : Nat} {u d : Value} (h : Bx w B u d) (k : Nw w w') : Bx w' B u d := (Below.block k B h.lt).trans h
theorem Bx.ext {w w' : World} {B : Nat} {u d v v' : Value} (h : Bx w B u d) (k : Ext v v' w w') (hv : v.ownBlock ≠ some B) : Bx w' B u d := (k.1.block B h.lt (fun e => hv e.symm)).trans h
theorem Bx.set {w : World} {B : Nat} {u d : Value} (h : Bx w B u d) (v : Value) : Bx (w.setCell ⟨B, 0, none⟩ v) B v d := by
  have hl := h.lt
  unfold Bx at h ⊢
  obtain ⟨_, h2⟩ := Array.getElem?_eq_some_iff.1 h
  rw [Array.getElem?_eq_some_iff]
  refine ⟨by simpa [World.setCell] using hl, ?_⟩
  simp [World.setCell, Array.getElem_modify_self, h2]
/-- What the reading of a rule's selectors may write: its variable, and what came behind. -/
def Fb (B n : Nat) : Nat → Prop := fun x => x = B ∨ n ≤ x
theorem Txs.strsW {w : World} {Bb : Nat} {v : Value} {l : List ByteArray} (h : Txs w Bb v l) : ∃ a c, v = .slice a l.length c ∧ ∀ wq B, B < Bb → Wr (Fb B w.heap.size) w wq → Strs wq a l := by
  rcases h.lay with ⟨rfl, rfl⟩ | ⟨g, c, rfl, hg, hl⟩
  · exact ⟨none, 0, rfl, fun _ _ _ _ => Or.inl rfl⟩
  · refine ⟨_, c, rfl, fun wq B hB k => Or.inr ⟨g, 0, rfl, Nat.lt_of_lt_of_le hl.1 k.size, fun i hi => ?_⟩⟩
    have hb := k.block g hl.1 (by intro e; have := hl.1; rcases e with e | e <;> omega)
    have := hl.2.1 i hi
    rw [Nat.zero_add, ← this]
    unfold World.cell?
    simp only [hb]

set_option maxHeartbeats 8000000 in
theorem ssheetL (s : ByteArray) (w : World) (hs : s.size ≤ 1048576) :
    Calls Tryz.prog 42 #[.string s] w fun e w' => RulesSays (bareB s) w w' e ∧ Nw w w' := by
  have hbs : (bareB s).size ≤ 1048576 := Nat.le_trans (bareB_size s) hs
  have HSB : Hid (Calls Tryz.prog 78 #[.string s] w fun e w' => e = .returned (.string (bareB s)) ∧ w' = w) := sbare s w hs
  clear hs
  generalize bareB s = b at *
  go_enter Tryz.func42, Tryz.ntmps42
  go_wp2_with fail
  refine Calls.mono HSB.out ?_
  rintro e w1 ⟨rfl, hq⟩
  have hq2 := hq.symm; clear hq; subst hq2
  clear HSB
  go_wp2
  go_loopw [3, 4] (fun v i wr => ∃ (k : Nat) (els : List (El RD)), i = .int .i64 k ∧ k ≤ b.size + 1 ∧ RowO 32 2 ERule wr w.heap.size v els ∧ RuSt b (b.data.toList.drop k) (els.map El.x) ∧ Nw w wr) (fun _ i _ => b.size + 1 - (intOf i).toNat)
  case atStart => exact ⟨0, [], rfl, Nat.zero_le _, RowO.nil _ _ _ _ _, RuSt.start b, Below.refl _ _⟩
  case round =>
    obtain ⟨k, els, rfl, hk, hro, hst, hw⟩ := hrel
    have h30 : els.length ≤ 30 := by have := hst.le; simpa using this
    obtain ⟨va, vc, hv⟩ := hro.slice
    subst hv
    have HR : Hid (RowO 32 2 ERule wr w.heap.size (.slice va els.length vc) els) := hro
    have HST : Hid (RuSt b (b.data.toList.drop k) (els.map El.x)) := hst
    have HW : Hid (Nw w wr) := hw
    clear hro hst hw
    by_cases hlt : k < b.size
    · have hltI : (k : Int) < (b.size : Int) := by omega
      by_cases hm : fndB 123 b k < b.size
      · obtain ⟨e1, e2, e3, g1, g2, hbr⟩ := sh_cut (Nat.le_of_lt hlt) hm
        have g3 := fndB_le (c := 125) (Nat.le_of_lt hm)
        have HF1 : Hid (Calls Tryz.prog 79 #[.string b, .int .i64 (k : Int), .int .u8 123] wr fun e w' => e = .returned (.int .i64 (fndB 123 b k : Nat)) ∧ w' = wr) := sfind b 123 k wr (Nat.le_of_lt hlt) hbs
        have HF2 : Hid (Calls Tryz.prog 79 #[.string b, .int .i64 (fndB 123 b k : Nat), .int .u8 125] wr fun e w' => e = .returned (.int .i64 (fndB 125 b (fndB 123 b k) : Nat)) ∧ w' = wr) := sfind b 125 (fndB 123 b k) wr (Nat.le_of_lt hm) hbs
        generalize fndB 125 b (fndB 123 b k) = en at *
        generalize fndB 123 b k = op at *
        have HX : Hid (RuSt b (b.data.toList.drop k) (els.map El.x) ∧ brk 123 (b.data.toList.drop k) < (b.data.toList.drop k).length ∧ b.extract k op = bA (aheadL (b.data.toList.drop k)) ∧ b.extract (op + 1) en = bA (insideL (b.data.toList.drop k)) ∧ b.data.toList.drop (en + 1) = restL (b.data.toList.drop k)) := ⟨HST.out, hbr, e1, e2, e3⟩
        clear e1 e2 e3 hbr HST
        have hne : ((op : Int) == (b.size : Int)) = false := by rw [beq_eq_false_iff_ne]; omega
        go_wp2_with fail
        refine Calls.mono HF1.out ?_
        rintro e w1 ⟨rfl, hq⟩
        have hq2 := hq.symm; clear hq; subst hq2
        clear HF1
        go_wp2_with fail
        refine Calls.mono HF2.out ?_
        rintro e w1 ⟨rfl, hq⟩
        have hq2 := hq.symm; clear hq; subst hq2
        clear HF2
        have hil : (b.extract (op + 1) en).size ≤ 1048576 := by rw [ByteArray.size_extract]; omega
        have hal : (b.extract k op).size ≤ 1048576 := by rw [ByteArray.size_extract]; omega
        go_wp2_with fail
        refine Calls.mono (sdecls (b.extract (op + 1) en) _ hil) ?_
        rintro e w2 ⟨⟨d, rfl, hd⟩, k2⟩
        obtain ⟨da, dc, hde, _⟩ := hd.slice
        subst hde
        have HK2 : Hid (Nw wr w2) := k2
        have HD : Hid (RowM 3 EDecl w2 (.slice da (dcs (pcB 59 (b.extract (op + 1) en))).length dc) (dcs (pcB 59 (b.extract (op + 1) en))) (iv wr w2)) := hd
        clear hd k2
        have HPL : Hid (∀ i, (strAt (pcB 44 (b.extract k op)) i).size ≤ 1048576) := fun i => pcB_size 44 _ hal i
        have hpl : (pcB 44 (b.extract k op)).length ≤ 1048577 := by rw [pcB_len]; have := count_le_size 44 (b.extract k op); omega
        have HSP : Hid (∀ wx, Calls Tryz.prog 81 #[.string (b.extract k op), .int .u8 44] wx fun e w' => ∃ v, e = .returned v ∧ Txs w' wx.heap.size v (pcB 44 (b.extract k op)) ∧ Nw wx w') := fun wx => ssplit (b.extract k op) 44 wx hal
        have HSO : Hid (selsOk (b.extract k op) = (pcB 44 (b.extract k op)).all selOk ∧ selsW (b.extract k op) = (pcB 44 (b.extract k op)).map selL) := ⟨rfl, rfl⟩
        generalize pcB 44 (b.extract k op) = ps at *
        generalize hdd : dcs (pcB 59 (b.extract (op + 1) en)) = dd at *
        have HBX0 : Hid (Bx (w2.alloc (.cells #[.slice none 0 0, .slice da dd.length dc] 32)) w2.heap.size (.slice none 0 0) (.slice da dd.length dc)) := Bx.alloc w2 (.slice none 0 0) (.slice da dd.length dc)
        have HA0 : Hid (Nw w2 (w2.alloc (.cells #[.slice none 0 0, .slice da dd.length dc] 32))) := (Below.refl _ _).alloc (Nat.le_refl _) _
        have hz0 : w2.heap.size < (w2.alloc (.cells #[.slice none 0 0, .slice da dd.length dc] 32)).heap.size := by simp
        go_wp2_with fail
        refine Calls.mono (HSP.out _) ?_
        generalize w2.alloc (.cells #[.slice none 0 0, .slice da dd.length dc] 32) = wb at *
        rintro e w3 ⟨v, rfl, hv, k3⟩
        obtain ⟨pa, pc, rfl, hst⟩ := hv.strsW
        have HSTR : Hid (∀ wq, Wr (Fb w2.heap.size w3.heap.size) w3 wq → Strs wq pa ps) := fun wq q => hst wq _ hz0 q
        have HK3 : Hid (Nw wb w3) := k3
        have HBX : Hid (Bx w3 w2.heap.size (.slice none 0 0) (.slice da dd.length dc)) := HBX0.out.nw k3
        have hz3 : w2.heap.size < w3.heap.size := Nat.lt_of_lt_of_le hz0 (Below.size k3)
        clear HSP hv hst k3 HBX0
        go_wp2
        obtain ⟨wo, hwo⟩ : ∃ x, x = wr := ⟨_, rfl⟩
        subst hwo
        have HNO : Hid (∀ wq, Wr (Fb w2.heap.size w3.heap.size) w3 wq → Nw wo wq) := fun wq q => by
          have n3 : Nw wo w3 := Nw.trans HK2.out (Nw.trans HA0.out HK3.out)
          have z2 := Below.size HK2.out
          exact Below.trans n3 (q.below (B := wo.heap.size) (fun x hx => by rcases hx with e | e <;> omega) (Below.size n3))
        go_loopw [8, 42] (fun g i wq => ∃ (j : Nat) (u : Value) (el2 : List (El (List PD))), j ≤ ps.length ∧ i = .int .i64 j ∧ g = .bool ((ps.take j).all selOk) ∧ RowO 34 1 ESel wq w3.heap.size u el2 ∧ el2.map El.x = (ps.take j).map selL ∧ Bx wq w2.heap.size u (.slice da dd.length dc) ∧ Wr (Fb w2.heap.size w3.heap.size) w3 wq) (fun _ i _ => ps.length - (intOf i).toNat)
        case atStart => exact ⟨0, _, [], Nat.zero_le _, rfl, rfl, RowO.nil _ _ _ _ _, rfl, HBX.out, Wr.refl _ _⟩
        case round =>
          obtain ⟨j, u, el2, hj, rfl, rfl, hro2, hmx2, hbx, hwr⟩ := hrel
          obtain ⟨ua, uc, hv⟩ := hro2.slice
          subst hv
          have hel2 : el2.length ≤ 10000000 := by have := congrArg List.length hmx2; simp at this; omega
          have HL2 : Hid (el2.length ≤ 10000000) := hel2
          have HR2 : Hid (RowO 34 1 ESel wr w3.heap.size (.slice ua el2.length uc) el2) := hro2
          have HM2 : Hid (el2.map El.x = (ps.take j).map selL) := hmx2
          have HB2 : Hid (Bx wr w2.heap.size (.slice ua el2.length uc) (.slice da dd.length dc)) := hbx
          have HWR : Hid (Wr (Fb w2.heap.size w3.heap.size) w3 wr) := hwr
          clear hro2 hmx2 hbx hel2
          by_cases hjl : j < ps.length
          · rcases HSTR.out _ hwr with h | ⟨g, o, rfl, hb, hc⟩
            · rw [h] at hjl; simp at hjl
            have q0 := hc j hjl
            have hz := HPL.out j
            have HTK : Hid (ps.take (j + 1) = ps.take j ++ [strAt ps j]) := take_at hjl
            clear hwr hc
            generalize strAt ps j = x at *
            have HAL : Hid ((ps.take (j + 1)).all selOk = ((ps.take j).all selOk && selOk x)) := by show _ = _; rw [HTK.out, List.all_append]; simp
            have hjI : (j : Int) < (ps.length : Int) := by omega
            generalize (ps.take j).all selOk = G at *
            go_wp2_with fail
            refine Calls.mono (sselector _ x hz) ?_
            rintro e w4 ⟨⟨t, rfl, ht⟩, k4⟩
            obtain ⟨ta, tc, hte, _⟩ := ht.slice
            subst hte
            have HT : Hid (RowM 3 EPart w4 (.slice ta (selL x).length tc) (selL x) (iv wr w4)) := ht
            have HK4 : Hid (Nw wr w4) := k4
            have q1 := (HB2.out.nw k4).c0
            have HB4 : ∀ o1, Hid (Bx (w4.alloc o1) w2.heap.size (.slice ua el2.length uc) (.slice da dd.length dc)) := fun o1 => (HB2.out.nw k4).nw ((Below.refl _ _).alloc (Nat.le_refl _) _)
            clear ht k4 q0
            have HNA : ∀ o1, Hid (Nw wr (w4.alloc o1)) := fun o1 => Nw.trans HK4.out ((Below.refl _ _).alloc (Nat.le_refl _) _)
            have HEP : ∀ o1, Hid (ESel (w4.alloc o1) [.slice ta (selL x).length tc] (selL x) (iv wr (w4.alloc o1))) := fun o1 => ⟨_, rfl, (HT.out.nw EPart.kept ((Below.refl _ _).alloc (Nat.le_refl _) _)).mono (iv_mono (by simp))⟩
            generalize selOk x = O at *
            have HGO : ∀ g0 o0, G = g0 → O = o0 → Hid ((ps.take (j + 1)).all selOk = (g0 && o0)) := fun g0 o0 e1 e2 => by rw [← e1, ← e2]; exact HAL
            clear HAL
            cases hG : G <;> cases hO : O <;> (
              have HAL := HGO _ _ hG hO
              clear HGO hG hO
              go_wp2_with (at_builtin; (refine wp_rw ESel.kept Tryz.underlying29 info_sel rfl (by decide) (by decide) wr _ rfl _ _ rfl w3.heap.size _ el2 rfl HR2.out (HNA _).out HWR.out.size _ rfl (selL x) [.slice ta (selL x).length tc] ?c1 rfl ?c2 (HEP _).out HL2.out ?_))
              case c1 =>
                intro j y hj
                cases j with
                | zero => simp at hj; subst hj; simp
                | succ j => simp at hj
              case c2 =>
                intro y hy
                simp only [List.mem_cons, List.not_mem_nil, or_false] at hy
                subst hy; rfl
              intro v' w' h1 h2
              obtain ⟨xa, xc, hx⟩ := h1.slice
              have hx2 : v' = .slice xa (el2.length + 1) xc := by rw [hx]; simp
              clear hx
              subst hx2
              have HB5 : Hid (Bx w' w2.heap.size (.slice ua el2.length uc) (.slice da dd.length dc)) := (HB4 _).out.ext h2 (fun e => by have := (HR2.out.lt _ e).1; omega)
              have HW5 : Hid (Wr (Fb w2.heap.size w3.heap.size) w3 w') := (HWR.out.trans (Wr.nw (HNA _).out)).trans (Wr.ext h2 (fun x e => Or.inr (HR2.out.lt x e).1))
              have q5 := HB5.out.c0
              have q6 := HB5.out.fz 0
              have H1 : Hid _ := h1
              clear h1 h2 q1
              go_wp2
              go_roundw
              case rel => exact ⟨j + 1, _, _, by omega, by go_num, by rw [HAL.out]; rfl, RowO.setB ESel.kept H1.out hz3 0 _, by rw [HTK.out, List.map_append, List.map_append, HM2.out]; rfl, HB5.out.set _, HW5.out.set (Or.inl rfl) 0 _⟩
              case measure => simp [intOf]; omega)
          · have hje : j = ps.length := by omega
            subst hje
            have hjI : ¬ ((ps.length : Int) < (ps.length : Int)) := by omega
            have HNW : Hid (Nw wo wr) := HNO.out _ hwr
            have HN : Hid (Nw w wr) := Nw.trans HW.out HNW.out
            have HRO : Hid (RowO 32 2 ERule wr w.heap.size (.slice va els.length vc) els) := HR.out.nw ERule.kept HNW.out
            have HU : Hid (RowM 1 ESel wr (.slice ua el2.length uc) (ps.map selL) (iv w3 wr)) := by
              have h1 := RowO.row HR2.out (F := iv w3 wr) (fun b h1 h2 => ⟨h1, h2⟩)
              have h2 := HM2.out
              rw [List.take_length] at h2
              rw [h2] at h1
              exact h1
            obtain ⟨x1, x2, x3, x4, x5⟩ := HX.out
            have HXN : Hid (ps.all selOk = false → RuSt b (b.data.toList.drop (en + 1)) (els.map El.x)) := fun h => by rw [x5]; exact x1.bad x2 (by rw [← x3, HSO.out.1]; exact h)
            have HXF : Hid (els.length = 30 → RuSt b (b.data.toList.drop (en + 1)) (els.map El.x)) := fun h => by rw [x5]; exact x1.full x2 (by rw [List.length_map]; exact h)
            have HXM : Hid (ps.all selOk = true → els.length < 30 → RuSt b (b.data.toList.drop (en + 1)) (els.map El.x ++ [⟨ps.map selL, dd⟩])) := fun h h2 => by
              have h3 := x1.more x2 (by rw [← x3, HSO.out.1]; exact h) (by rw [List.length_map]; exact h2)
              unfold ruleL at h3
              rw [← x3, ← x4, HSO.out.2, hdd] at h3
              rw [x5]; exact h3
            have q1 := HB2.out.c0
            have q2 := HB2.out.c1
            clear x1 x2 x3 x4 x5 HSO hwr HX hdd
            rw [List.take_length]
            clear HM2
            cases hG : ps.all selOk
            · have HZ := HXN.out hG
              have HX2 : Hid (RuSt b (b.data.toList.drop (en + 1)) (els.map El.x)) := HZ
              clear HZ HXN HXF HXM
              go_wp2
              go_roundw
              case rel => exact ⟨en + 1, els, by go_num, by omega, HRO.out, HX2.out, HN.out⟩
              case measure => simp [intOf]; omega
            · by_cases h3 : els.length = 30
              · have HX2 : Hid (RuSt b (b.data.toList.drop (en + 1)) (els.map El.x)) := HXF.out h3
                have g30 : ¬ ((els.length : Int) < 30) := by omega
                clear HXN HXF HXM h3
                go_wp2
                go_roundw
                case rel => exact ⟨en + 1, els, by go_num, by omega, HRO.out, HX2.out, HN.out⟩
                case measure => simp [intOf]; omega
              · have HX2 : Hid (RuSt b (b.data.toList.drop (en + 1)) (els.map El.x ++ [⟨ps.map selL, dd⟩])) := HXM.out hG (by omega)
                have g30 : (els.length : Int) < 30 := by omega
                have HL30 : Hid (els.length ≤ 10000000) := by show _ ≤ _; omega
                have HNA : ∀ o1, Hid (Nw wo (wr.alloc o1)) := fun o1 => Nw.trans HNW.out ((Below.refl _ _).alloc (Nat.le_refl _) _)
                have HEP : ∀ o1, Hid (ERule (wr.alloc o1) [.slice ua el2.length uc, .slice da dd.length dc] ⟨ps.map selL, dd⟩ (iv wo (wr.alloc o1))) := fun o1 => by
                  have z1 := Below.size HK2.out
                  have z2 := HWR.out.size
                  have a0 : Nw wr (wr.alloc o1) := (Below.refl _ _).alloc (Nat.le_refl _) _
                  have z4 : wr.heap.size ≤ (wr.alloc o1).heap.size := Below.size a0
                  have d2 : RowM 3 EDecl wr (.slice da dd.length dc) dd (iv wo w2) := by
                    have n3 : Nw w2 w3 := Nw.trans HA0.out HK3.out
                    refine (HD.out.nw EDecl.kept n3).kept EDecl.kept HWR.out (fun b hb hc => ?_)
                    have := hb.2
                    rcases hc with e | e <;> omega
                  refine ⟨_, _, iv w3 wr, iv wo w2, rfl, HU.out.nw ESel.kept a0, d2.nw EDecl.kept a0, fun b hb => ⟨by have := hb.1; omega, by have := hb.2; omega⟩, fun b hb => ⟨hb.1, by have := hb.2; omega⟩, fun b hb hc => ?_⟩
                  have := hb.1
                  have := hc.2
                  omega
                clear HXN HXF HXM h3
                go_wp2_with (at_builtin; (refine wp_rw ERule.kept Tryz.underlying23 info_rule rfl (by decide) (by decide) wo _ rfl _ _ rfl w.heap.size _ els rfl HR.out (HNA _).out (Below.size HW.out) _ rfl ⟨ps.map selL, dd⟩ [.slice ua el2.length uc, .slice da dd.length dc] ?c1 rfl ?c2 (HEP _).out HL30.out ?_))
                case c2 => exact ⟨rfl, rfl⟩
                intro v' w' h1 h2
                have HN5 : Hid (Nw w w') := Below.trans (HW.out.trans (HNA _).out) (Ext.below h2 (fun g e => (HR.out.lt g e).1) (Nat.le_trans (Below.size HW.out) (Below.size (HNA _).out)))
                have H1 : Hid _ := h1
                clear h1 h2
                go_wp2
                go_roundw
                case rel => exact ⟨en + 1, _, by go_num, by omega, H1.out, by rw [List.map_append]; exact HX2.out, HN5.out⟩
                case measure => simp [intOf]; omega
      · have HE : Hid (els.map El.x = rules30 b) := HST.out.fin (sh_none (Nat.le_of_lt hlt) hm)
        have HF1 : Hid (Calls Tryz.prog 79 #[.string b, .int .i64 (k : Int), .int .u8 123] wr fun e w' => e = .returned (.int .i64 (fndB 123 b k : Nat)) ∧ w' = wr) := sfind b 123 k wr (Nat.le_of_lt hlt) hbs
        have g3 := fndB_le (c := 123) (Nat.le_of_lt hlt)
        generalize fndB 123 b k = op at *
        have hop : op = b.size := by omega
        subst hop
        have hne : ((b.size : Int) == (b.size : Int)) = true := by simp
        clear hm g3
        go_wp2_with fail
        refine Calls.mono HF1.out ?_
        rintro e w1 ⟨rfl, hq⟩
        have hq2 := hq.symm; clear hq; subst hq2
        clear HF1
        go_wp2
        go_ret
        exact ⟨⟨_, rfl, by rw [← HE.out]; exact RowO.row HR.out (fun b h1 h2 => ⟨h1, h2⟩)⟩, HW.out⟩
    · have hltI : ¬ ((k : Int) < (b.size : Int)) := by omega
      have HE : Hid (els.map El.x = rules30 b) := HST.out.fin (by rw [List.length_drop, data_len]; omega)
      go_wp2
      go_ret
      exact ⟨⟨_, rfl, by rw [← HE.out]; exact RowO.row HR.out (fun b h1 h2 => ⟨h1, h2⟩)⟩, HW.out⟩
end Go.Proofs.YtnkmdmmlpidcmaaGreatDoor
namespace Go.Proofs.YtnkmdmmlpidcmaaGreatDoor
open Go.ChangeShapes Go.WideShapes Go.ChangeAt Go.RowKit
set_option linter.unusedVariables false

set_option maxHeartbeats 2000000 in
theorem ssheet (s : ByteArray) (w : World) (hs : s.size ≤ 1048576) :
    Calls Tryz.prog 15 #[.string s] w fun e w' => ShtSays s w w' e ∧ Nw w w' := by
  unfold ShtSays shtL
  by_cases h : 1500 < s.size
  · have hd : decide (1500 < (s.size : Int)) = true := by simp; omega
    rw [if_pos h, decide_eq_true h]
    go_enter Tryz.func15, Tryz.ntmps15
    go_wp2
    go_ret2
    exact ⟨⟨_, rfl, RowM.nil _ _ _ _⟩, Below.refl _ _⟩
  · have hd : decide (1500 < (s.size : Int)) = false := by simp; omega
    rw [if_neg h, decide_eq_false h]
    go_enter Tryz.func15, Tryz.ntmps15
    go_wp2_with fail
    refine Calls.mono (ssheetL s _ hs) ?_
    rintro e w2 ⟨⟨v, rfl, hr⟩, k2⟩
    have HR : Hid (RowM 2 ERule w2 v (rules30 (bareB s)) (iv w w2)) := hr
    have HN2 : Hid (Nw w w2) := k2
    obtain ⟨a, c, hv, _⟩ := hr.slice
    subst hv
    clear hr k2
    go_wp2
    go_ret2
    exact ⟨⟨_, rfl, HR.out⟩, HN2.out⟩
end Go.Proofs.YtnkmdmmlpidcmaaGreatDoor
namespace Go.Proofs.YtnkmdmmlpidcmaaGreatDoor
open Go.ChangeShapes Go.WideShapes Go.ChangeAt Go.RowKit
set_option linter.unusedVariables false

def cntSS (l : List (List PD)) : Nat := (l.map cntPs).sum
def mkSS : Nat → List (List PD) → List (List PD)
  | _, [] => []
  | K, p :: l => mkPs K p :: mkSS (K + cntPs p) l
theorem mkSS_len (l : List (List PD)) : ∀ K, (mkSS K l).length = l.length := by
  induction l with
  | nil => intro K; rfl
  | cons p l ih => intro K; simp [mkSS, ih]
theorem mkSS_at (l : List (List PD)) : ∀ K k, k < l.length → (mkSS K l)[k]? = some (mkPs (K + cntSS (l.take k)) (selAt l k)) := by
  induction l with
  | nil => intro K k h; simp at h
  | cons p l ih =>
    intro K k h
    cases k with
    | zero => simp [mkSS, cntSS, selAt]
    | succ k =>
      have := ih (K + cntPs p) k (by simpa using h)
      simp only [mkSS, List.getElem?_cons_succ, this]
      simp [cntSS, selAt, Nat.add_assoc]
theorem cntSS_step (l : List (List PD)) (k : Nat) (h : k < l.length) : cntSS (l.take (k + 1)) = cntSS (l.take k) + cntPs (selAt l k) := by
  unfold cntSS selAt
  rw [List.take_succ_eq_append_getElem h, List.map_append, List.sum_append]
  simp [h]
theorem cntSS_le (l : List (List PD)) (k : Nat) : cntSS (l.take k) ≤ cntSS l := by
  unfold cntSS
  conv => rhs; rw [← List.take_append_drop k l, List.map_append, List.sum_append]
  omega
set_option maxHeartbeats 4000000 in
theorem markSS_any (w : World) (v : Value) (K : Nat) (l : List (List PD)) (F : Nat → Prop) (hl : l.length ≤ 1000000) (hK : 1 ≤ K) (hK2 : K + cntSS l ≤ 1000000) (h : RowM 1 ESel w v l F) :
    Calls Tryz.prog 44 #[v, .int .i64 (K : Int)] w fun e w' => e = .returned (.int .i64 ((K + cntSS l : Nat) : Int)) ∧ Wr F w w' ∧ RowM 1 ESel w' v (mkSS K l) F := by
  rcases h with ⟨rfl, rfl⟩ | ⟨g, c, els, rfl, hc, hx, hA⟩
  · go_enter Tryz.func44, Tryz.ntmps44
    go_wp2
    go_loopw [1, 5] (fun x i wr => x = .int .i64 (K : Int) ∧ i = .int .i64 0 ∧ wr = w) (fun _ _ _ => 0)
    case atStart => exact ⟨rfl, rfl, rfl⟩
    case round =>
      obtain ⟨rfl, rfl, rfl⟩ := hrel
      go_wp2
      go_ret
      exact ⟨rfl, Wr.refl _ _, Or.inl ⟨rfl, rfl⟩⟩
  · have HA : Hid (RowA 1 ESel w g els F) := hA
    have HX : Hid (els.map El.x = l) := hx
    clear hA hx
    have HC : Hid (l.length ≤ c) := hc
    go_enter Tryz.func44, Tryz.ntmps44
    go_wp2
    go_loopw [1, 5] (fun x i wr => ∃ (j : Nat) (es : List (El (List PD))), j ≤ l.length ∧ i = .int .i64 j ∧ x = .int .i64 ((K + cntSS (l.take j) : Nat) : Int) ∧ Wr F w wr ∧ es.map El.x = (mkSS K l).take j ++ l.drop j ∧ RowA 1 ESel wr g es F) (fun _ i _ => l.length - (intOf i).toNat)
    case atStart => exact ⟨0, els, Nat.zero_le _, rfl, rfl, Wr.refl _ _, HX.out, HA.out⟩
    case round =>
      obtain ⟨j, es, hj, rfl, rfl, hw, he, hA⟩ := hrel
      have HW : Hid (Wr F w wr) := hw
      have HE : Hid (es.map El.x = (mkSS K l).take j ++ l.drop j) := he
      by_cases hlt : j < l.length
      · obtain ⟨e, hje, hex⟩ := el_at he j (by rw [List.length_append, List.length_take, List.length_drop, mkSS_len]; omega) []
        have hex2 : e.x = selAt l j := by
          rw [hex]
          show ((mkSS K l).take j ++ l.drop j).getD j [] = l.getD j []
          rw [List.getD_eq_getElem?_getD, marked_at _ _ _ (mkSS_len l K) hlt, ← List.getD_eq_getElem?_getD]
        obtain ⟨⟨u, hcs, hu⟩, hlen, hFe⟩ := hA.el e (List.mem_of_getElem? hje)
        have c0 := hA.cell j e hje 0 u (by rw [hcs]; rfl)
        have hst := cntSS_step l j hlt
        have hle := cntSS_le l (j + 1)
        have HMK : Hid _ := mkSS_at l K j hlt
        have hg := hA.lt
        rw [hex2] at hu
        rw [Nat.mul_one, Nat.add_zero] at c0
        have HU : Hid (RowM 3 EPart wr u (selAt l j) e.F) := hu
        have HRA : Hid (RowA 1 ESel wr g es F) := hA
        have HJE : Hid (es[j]? = some e) := hje
        have HCS : Hid (e.cs = [u]) := hcs
        have HFE : Hid (∀ b, e.F b → F b ∧ b ≠ g) := hFe
        obtain ⟨ua, uc, hue, _⟩ := hu.slice
        subst hue
        rw [hst] at hle
        have HST : Hid (cntSS (l.take (j + 1)) = cntSS (l.take j) + cntPs (selAt l j)) := hst
        have HSM : Hid _ := fun x hx => set_marked (mkSS K l) l j x (mkSS_len l K) hlt hx
        clear hst hu hA hje hFe hex hex2 hcs hlen he hw
        generalize cntSS (l.take j) = C at *
        go_wp2_with fail
        refine Calls.mono (markPt_any _ (.slice ua (selAt l j).length uc) (K + C) (selAt l j) e.F (by omega) (by omega) HU.out) ?_
        rintro e1 w1 ⟨rfl, k1, m1⟩
        have HNX : Hid (RowA 1 ESel w1 g (es.set j ⟨mkPs (K + C) (selAt l j), e.cs, e.F⟩) F) := HRA.out.inner ESel.kept j e _ HJE.out k1 ⟨_, HCS.out, m1⟩
        have HW1 : Hid (Wr F w w1) := HW.out.trans (k1.mono (fun b hb => (HFE.out b hb).1))
        clear k1 m1
        go_wp2
        go_roundw
        case rel =>
          refine ⟨j + 1, _, by omega, by go_num, by rw [HST.out]; go_num, HW1.out, ?_, HNX.out⟩
          rw [List.map_set, HE.out, HSM.out _ HMK.out]
        case measure => simp [intOf]; omega
      · have e : j = l.length := by omega
        subst e
        rw [List.take_length] at *
        have HRA : Hid (RowA 1 ESel wr g es F) := hA
        have HE2 : Hid (es.map El.x = mkSS K l) := by
          show _ = _
          rw [he, List.drop_length, List.append_nil, List.take_of_length_le (by rw [mkSS_len]; exact Nat.le_refl _)]
        have HLN : Hid ((mkSS K l).length = l.length) := mkSS_len l K
        clear hA he hw
        go_wp2
        go_ret
        refine ⟨rfl, HW.out, Or.inr ⟨g, c, es, ?_, ?_, HE2.out, HRA.out⟩⟩
        · rw [HLN.out]
        · rw [HLN.out]; exact HC.out
set_option maxHeartbeats 8000000 in
theorem heldSS_any (w : World) (v : Value) (K : Nat) (l : List (List PD)) (F : Nat → Prop) (hl : l.length ≤ 1000000) (hK : 1 ≤ K) (hK2 : K + cntSS l ≤ 1000000) (h : RowM 1 ESel w v (mkSS K l) F) :
    Calls Tryz.prog 46 #[v, .int .i64 (K : Int)] w fun e w' => e = .returned (.int .i64 ((K + cntSS l : Nat) : Int)) ∧ Nw w w' := by
  obtain ⟨va, vc, hv, _⟩ := h.slice
  rw [mkSS_len] at hv
  subst hv
  have HR : Hid (RowM 1 ESel w (.slice va l.length vc) (mkSS K l) F) := h
  clear h
  go_enter Tryz.func46, Tryz.ntmps46
  go_wp2
  go_loopw [1, 5] (fun x i wr => ∃ (j : Nat), j ≤ l.length ∧ i = .int .i64 j ∧ x = .int .i64 ((K + cntSS (l.take j) : Nat) : Int) ∧ Nw w wr) (fun _ i _ => l.length - (intOf i).toNat)
  case atStart => exact ⟨0, Nat.zero_le _, rfl, rfl, Below.refl _ _⟩
  case round =>
    obtain ⟨j, hj, rfl, rfl, hw⟩ := hrel
    have HW : Hid (Nw w wr) := hw
    by_cases hlt : j < l.length
    · rcases HR.out.nw ESel.kept hw with ⟨_, h2⟩ | ⟨g, c, els, h1, h2, h3, h4⟩
      · have := mkSS_len l K; rw [h2] at this; simp at this; omega
      injection h1 with h1a h1b h1c
      subst h1a
      obtain ⟨e, hje, hex⟩ := el_at h3 j (by rw [mkSS_len]; exact hlt) []
      have hex2 : e.x = mkPs (K + cntSS (l.take j)) (selAt l j) := by
        rw [hex, List.getD_eq_getElem?_getD, mkSS_at l K j hlt]; rfl
      obtain ⟨⟨u, hcs, hu⟩, hlen, hFe⟩ := h4.el e (List.mem_of_getElem? hje)
      have c0 := h4.cell j e hje 0 u (by rw [hcs]; rfl)
      have hst := cntSS_step l j hlt
      have hle := cntSS_le l (j + 1)
      have hg := h4.lt
      rw [hex2] at hu
      rw [Nat.mul_one, Nat.add_zero] at c0
      obtain ⟨ua, uc, hue, _⟩ := hu.slice
      rw [mkPs_len] at hue
      subst hue
      have HU : Hid (RowM 3 EPart wr (.slice ua (selAt l j).length uc) (mkPs (K + cntSS (l.take j)) (selAt l j)) e.F) := hu
      rw [hst] at hle
      have HST : Hid (cntSS (l.take (j + 1)) = cntSS (l.take j) + cntPs (selAt l j)) := hst
      clear hst hu hje hFe hex hex2 hcs hlen hw h1b h1c h2 h3 h4
      generalize cntSS (l.take j) = C at *
      go_wp2_with fail
      refine Calls.mono (heldPt_any _ (.slice ua (selAt l j).length uc) (K + C) (selAt l j) e.F (by omega) (by omega) HU.out) ?_
      rintro e1 w1 ⟨rfl, k1⟩
      have HN1 : Hid (Nw w w1) := Nw.trans HW.out k1
      clear k1
      go_wp2
      go_roundw
      case rel => exact ⟨j + 1, by omega, by go_num, by rw [HST.out]; go_num, HN1.out⟩
      case measure => simp [intOf]; omega
    · have e : j = l.length := by omega
      subst e
      rw [List.take_length] at *
      clear hw
      go_wp2
      go_ret
      exact ⟨rfl, HW.out⟩
/-! ### Rules -/
def cntR (r : RD) : Nat := cntSS r.sels + 3 * r.decls.length
def mkR (K : Nat) (r : RD) : RD := ⟨mkSS K r.sels, mkDs (K + cntSS r.sels) r.decls.length⟩
def cntRs (l : List RD) : Nat := (l.map cntR).sum
def mkRs : Nat → List RD → List RD
  | _, [] => []
  | K, p :: l => mkR K p :: mkRs (K + cntR p) l
theorem mkRs_len (l : List RD) : ∀ K, (mkRs K l).length = l.length := by
  induction l with
  | nil => intro K; rfl
  | cons p l ih => intro K; simp [mkRs, ih]
theorem mkRs_at (l : List RD) : ∀ K k, k < l.length → (mkRs K l)[k]? = some (mkR (K + cntRs (l.take k)) (ruleAt l k)) := by
  induction l with
  | nil => intro K k h; simp at h
  | cons p l ih =>
    intro K k h
    cases k with
    | zero => simp [mkRs, cntRs, ruleAt]
    | succ k =>
      have := ih (K + cntR p) k (by simpa using h)
      simp only [mkRs, List.getElem?_cons_succ, this]
      simp [cntRs, ruleAt, Nat.add_assoc]
theorem cntRs_step (l : List RD) (k : Nat) (h : k < l.length) : cntRs (l.take (k + 1)) = cntRs (l.take k) + cntR (ruleAt l k) := by
  unfold cntRs ruleAt
  rw [List.take_succ_eq_append_getElem h, List.map_append, List.sum_append]
  simp [h]
theorem cntRs_le (l : List RD) (k : Nat) : cntRs (l.take k) ≤ cntRs l := by
  unfold cntRs
  conv => rhs; rw [← List.take_append_drop k l, List.map_append, List.sum_append]
  omega
set_option maxHeartbeats 4000000 in
theorem markRs_any (w : World) (v : Value) (K : Nat) (l : List RD) (F : Nat → Prop) (hl : l.length ≤ 1000000) (hla : ∀ i, i < l.length → (ruleAt l i).sels.length ≤ 1000000) (hK : 1 ≤ K) (hK2 : K + cntRs l ≤ 1000000) (h : RowM 2 ERule w v l F) :
    Calls Tryz.prog 17 #[v, .int .i64 (K : Int)] w fun e w' => e = .returned (.int .i64 ((K + cntRs l : Nat) : Int)) ∧ Wr F w w' ∧ RowM 2 ERule w' v (mkRs K l) F := by
  rcases h with ⟨rfl, rfl⟩ | ⟨g, c, els, rfl, hc, hx, hA⟩
  · go_enter Tryz.func17, Tryz.ntmps17
    go_wp2
    go_loopw [1, 5] (fun x i wr => x = .int .i64 (K : Int) ∧ i = .int .i64 0 ∧ wr = w) (fun _ _ _ => 0)
    case atStart => exact ⟨rfl, rfl, rfl⟩
    case round =>
      obtain ⟨rfl, rfl, rfl⟩ := hrel
      go_wp2
      go_ret
      exact ⟨rfl, Wr.refl _ _, Or.inl ⟨rfl, rfl⟩⟩
  · have HA : Hid (RowA 2 ERule w g els F) := hA
    have HX : Hid (els.map El.x = l) := hx
    have HLA : Hid (∀ i, i < l.length → (ruleAt l i).sels.length ≤ 1000000) := hla
    clear hA hx hla
    have HC : Hid (l.length ≤ c) := hc
    go_enter Tryz.func17, Tryz.ntmps17
    go_wp2
    go_loopw [1, 5] (fun x i wr => ∃ (j : Nat) (es : List (El RD)), j ≤ l.length ∧ i = .int .i64 j ∧ x = .int .i64 ((K + cntRs (l.take j) : Nat) : Int) ∧ Wr F w wr ∧ es.map El.x = (mkRs K l).take j ++ l.drop j ∧ RowA 2 ERule wr g es F) (fun _ i _ => l.length - (intOf i).toNat)
    case atStart => exact ⟨0, els, Nat.zero_le _, rfl, rfl, Wr.refl _ _, HX.out, HA.out⟩
    case round =>
      obtain ⟨j, es, hj, rfl, rfl, hw, he, hA⟩ := hrel
      have HW : Hid (Wr F w wr) := hw
      have HE : Hid (es.map El.x = (mkRs K l).take j ++ l.drop j) := he
      by_cases hlt : j < l.length
      · obtain ⟨e, hje, hex⟩ := el_at he j (by rw [List.length_append, List.length_take, List.length_drop, mkRs_len]; omega) noRD
        have hex2 : e.x = ruleAt l j := by
          rw [hex]
          show ((mkRs K l).take j ++ l.drop j).getD j noRD = l.getD j noRD
          rw [List.getD_eq_getElem?_getD, marked_at _ _ _ (mkRs_len l K) hlt, ← List.getD_eq_getElem?_getD]
        obtain ⟨⟨u1, u2, F1, F2, hcs, hu1, hu2, hf1, hf2, hd⟩, hlen, hFe⟩ := hA.el e (List.mem_of_getElem? hje)
        have c0 := hA.cell j e hje 0 u1 (by rw [hcs]; rfl)
        have c1 := hA.cell j e hje 1 u2 (by rw [hcs]; rfl)
        have hst := cntRs_step l j hlt
        have hle := cntRs_le l (j + 1)
        have hsl := HLA.out j hlt
        have HMK : Hid _ := mkRs_at l K j hlt
        have hg := hA.lt
        rw [hex2] at hu1 hu2
        rw [Nat.add_zero] at c0
        have HU1 : Hid (RowM 1 ESel wr u1 (ruleAt l j).sels F1) := hu1
        have HU2 : Hid (RowM 3 EDecl wr u2 (ruleAt l j).decls F2) := hu2
        have HRA : Hid (RowA 2 ERule wr g es F) := hA
        have HJE : Hid (es[j]? = some e) := hje
        have HCS : Hid (e.cs = [u1, u2]) := hcs
        have HFE : Hid (∀ b, e.F b → F b ∧ b ≠ g) := hFe
        have HF1 : Hid (∀ b, F1 b → e.F b) := hf1
        have HF2 : Hid (∀ b, F2 b → e.F b) := hf2
        have HDJ : Hid (disj F1 F2) := hd
        obtain ⟨ua, uc, hue, _⟩ := hu1.slice
        obtain ⟨ub, ud, huf, _⟩ := hu2.slice
        subst hue huf
        have hcr : cntR (ruleAt l j) = cntSS (ruleAt l j).sels + 3 * (ruleAt l j).decls.length := rfl
        rw [hcr] at hst
        rw [hst] at hle
        have HST : Hid (cntRs (l.take (j + 1)) = cntRs (l.take j) + (cntSS (ruleAt l j).sels + 3 * (ruleAt l j).decls.length)) := hst
        have HSM : Hid _ := fun x hx => set_marked (mkRs K l) l j x (mkRs_len l K) hlt hx
        clear hst hu1 hu2 hA hje hFe hex hex2 hcs hlen he hw hf1 hf2 hd hcr
        generalize cntRs (l.take j) = C at *
        obtain ⟨n1, hn1⟩ : ∃ n, cntSS (ruleAt l j).sels = n := ⟨_, rfl⟩
        rw [hn1] at hle HST
        have HN1 : Hid (cntSS (ruleAt l j).sels = n1) := hn1
        go_wp2_with fail
        refine Calls.mono (markSS_any _ _ (K + C) (ruleAt l j).sels F1 hsl (by omega) (by omega) HU1.out) ?_
        rintro e1 w1 ⟨rfl, k1, m1⟩
        rw [HN1.out]
        have hnb : ¬ F1 g := fun hb => (HFE.out g (HF1.out g hb)).2 rfl
        have hbk := k1.block g hg hnb
        have d1 := (World.cell?_of_block (w := wr) (w' := w1) (a := ⟨g, j * 2 + 1, none⟩) hbk).trans c1
        have hg1 : g < w1.heap.size := Nat.lt_of_lt_of_le hg k1.size
        have HK1 : Hid (Wr F1 wr w1) := k1
        have HM1 : Hid (RowM 1 ESel w1 _ (mkSS (K + C) (ruleAt l j).sels) F1) := m1
        have HV2 : Hid (RowM 3 EDecl w1 _ (ruleAt l j).decls F2) := HU2.out.kept EDecl.kept k1 (fun b hb hb2 => HDJ.out b hb2 hb)
        clear k1 m1 hbk c0 c1
        go_wp2_with fail
        refine Calls.mono (markDl_any _ _ (K + C + n1) (ruleAt l j).decls F2 (by omega) (by omega) HV2.out) ?_
        rintro e2 w2 ⟨rfl, k2, m2⟩
        have HM1' : Hid (RowM 1 ESel w2 _ (mkSS (K + C) (ruleAt l j).sels) F1) := HM1.out.kept ESel.kept k2 HDJ.out
        have HWR : Hid (Wr e.F wr w2) := (HK1.out.mono HF1.out).trans (k2.mono HF2.out)
        have HNX : Hid (RowA 2 ERule w2 g (es.set j ⟨mkR (K + C) (ruleAt l j), e.cs, e.F⟩) F) := by
          refine HRA.out.inner ERule.kept j e _ HJE.out HWR.out ⟨_, _, F1, F2, HCS.out, HM1'.out, ?_, HF1.out, HF2.out, HDJ.out⟩
          show RowM 3 EDecl w2 _ (mkDs (K + C + cntSS (ruleAt l j).sels) (ruleAt l j).decls.length) F2
          rw [HN1.out]
          exact m2
        have HW1 : Hid (Wr F w w2) := HW.out.trans (HWR.out.mono (fun b hb => (HFE.out b hb).1))
        clear k2 m2
        go_wp2
        go_roundw
        case rel =>
          refine ⟨j + 1, _, by omega, by go_num, by rw [HST.out]; go_num, HW1.out, ?_, HNX.out⟩
          rw [List.map_set, HE.out, HSM.out _ HMK.out]
        case measure => simp [intOf]; omega
      · have e : j = l.length := by omega
        subst e
        rw [List.take_length] at *
        have HRA : Hid (RowA 2 ERule wr g es F) := hA
        have HE2 : Hid (es.map El.x = mkRs K l) := by
          show _ = _
          rw [he, List.drop_length, List.append_nil, List.take_of_length_le (by rw [mkRs_len]; exact Nat.le_refl _)]
        have HLN : Hid ((mkRs K l).length = l.length) := mkRs_len l K
        clear hA he hw
        go_wp2
        go_ret
        refine ⟨rfl, HW.out, Or.inr ⟨g, c, es, ?_, ?_, HE2.out, HRA.out⟩⟩
        · rw [HLN.out]
        · rw [HLN.out]; exact HC.out
end Go.Proofs.YtnkmdmmlpidcmaaGreatDoor
